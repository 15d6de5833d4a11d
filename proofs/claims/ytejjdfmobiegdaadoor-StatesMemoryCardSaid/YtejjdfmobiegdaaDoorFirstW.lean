/- first: the small calls, walked. -/
import Derived.Test.YtejjdfmobiegdaaDoorFirstS
import Derived.Test.YtejjdfmobiegdaaDoorReach
import Derived.Test.YtejjdfmobiegdaaDoorRaw
set_option linter.unusedVariables false
namespace Go.Proofs.YtejjdfmobiegdaaDoor
open Go.RowKit
open Doc

def us (F : List Nat) : List Value := F.map fun (x : Nat) => Value.int .u64 (x : Int)
theorem us_at {F : List Nat} {j x : Nat} (h : F[j]? = some x) : (us F)[j]? = some (.int .u64 x) := by unfold us; rw [List.getElem?_map, h]; rfl
/-- A table as it lies: its block B, the sets' block b. -/
structure TabAt (w : World) (B b t : Nat) (F : List Nat) : Prop where
  q : w.heap[B]? = some (.cells #[.int .i64 t, .slice (some ⟨b, 0, none⟩) F.length F.length] 151)
  c : w.heap[b]? = some (.cells (us F).toArray 127)
  ne : B ≠ b
theorem TabAt.below {w w' : World} {B b t : Nat} {F : List Nat} (h : TabAt w B b t F) (hb : Below w.heap.size w w') : TabAt w' B b t F := ⟨(hb.block _ (heap_lt h.q)).trans h.q, (hb.block _ (heap_lt h.c)).trans h.c, h.ne⟩
theorem TabAt.cell {w : World} {B b t : Nat} {F : List Nat} (h : TabAt w B b t F) {j x : Nat} (hj : F[j]? = some x) : w.cell? ⟨b, j, none⟩ = some (.int .u64 x) := (blk_cell h.c (by simpa using us_at hj)).1

theorem ofL_sing (s : Int) : ofL [s] = sdig s := by simp [ofL]
theorem of_sing (s : Int) (W : World) : Calls Tryd.prog 73 #[.slice (some ⟨W.heap.size, 0, none⟩) 1 1] (W.alloc (.cells #[.int .i64 s] 3)) fun e w' => e = .returned (.int .u64 (sdig s : Nat)) ∧ w' = W.alloc (.cells #[.int .i64 s] 3) :=
  (set_of (some ⟨W.heap.size, 0, none⟩) 1 [s] (W.alloc (.cells #[.int .i64 s] 3)) (cells_new W #[.int .i64 s] 3) (by simp)).mono fun e w' ⟨he, hw⟩ => ⟨he.trans (by rw [ofL_sing]), hw⟩
theorem of_zero (W : World) : Calls Tryd.prog 73 #[.slice (some ⟨W.heap.size, 0, none⟩) 1 1] (W.alloc (.cells #[.int .i64 0] 3)) fun e w' => e = .returned (.int .u64 1) ∧ w' = W.alloc (.cells #[.int .i64 0] 3) :=
  (of_sing 0 W).mono fun e w' ⟨he, hw⟩ => ⟨he, hw⟩

theorem ftm_any (B b t : Nat) (F : List Nat) (s : Int) (w : World) (h : TabAt w B b t F) :
    Calls Tryd.prog 139 #[.pointer (some ⟨B, 0, none⟩), .int .i64 s] w fun e w' => e = .returned (.bool (decide (1 ≤ s ∧ s ≤ (t : Int)))) ∧ w' = w := by
  have x0 := (blk_cell (i := 0) (u := .int .i64 t) h.q rfl).1
  have l0 := heap_lt h.q
  clear h
  by_cases h1 : 1 ≤ s
  · have hr := Lib.hid (show decide (1 ≤ s ∧ s ≤ (t : Int)) = decide (s ≤ (t : Int)) by simp [h1])
    go_enter Tryd.func139, Tryd.ntmps139
    go_wp2
    go_ret
    exact ⟨ret_bool hr.out.symm, rfl⟩
  · have hr := Lib.hid (show (decide (1 ≤ s) && decide (s ≤ (t : Int))) = false by simp [h1])
    go_enter Tryd.func139, Tryd.ntmps139
    go_wp2
    go_ret
    exact ⟨ret_bool hr.out.symm, rfl⟩

theorem alone_any (B b t : Nat) (F : List Nat) (s : Int) (w : World) (h : TabAt w B b t F) (hs : s ≤ 9223372036854775807) (hl : F.length ≤ 1000) :
    Calls Tryd.prog 137 #[.pointer (some ⟨B, 0, none⟩), .int .i64 s] w fun e w' => e = .returned (.int .u64 (aloneF t F s : Nat)) ∧ Below w.heap.size w w' := by
  have hT := ftm_any B b t F s w h
  have x1 := (blk_cell (i := 1) (u := .slice (some ⟨b, 0, none⟩) F.length F.length) h.q rfl).1
  have l0 := heap_lt h.q
  have l1 := heap_lt h.c
  have HC := Lib.hid (fun j x (hj : F[j]? = some x) => h.cell hj)
  have HOF := Lib.hid fun W => of_sing s W
  clear h
  by_cases h1 : 1 ≤ s ∧ s ≤ (t : Int)
  · have hres := Lib.hid (show aloneF t F s = sdig s from if_pos h1)
    rw [decide_eq_true h1] at hT
    have HT := Lib.hid hT
    clear hT h1
    go_enter Tryd.func137, Tryd.ntmps137
    go_wp2_with (first
      | (go_at_call 139; refine HT.out.mono ?_; rintro e w2 ⟨rfl, rfl⟩)
      | (go_at_call 73; refine (HOF.out _).mono ?_; rintro e w3 ⟨rfl, rfl⟩))
    go_ret
    exact ⟨by rw [hres.out]; rfl, (Below.refl _ _).alloc (Nat.le_refl _) _⟩
  · rw [decide_eq_false h1] at hT
    have HT := Lib.hid hT
    by_cases h2 : 100 ≤ s
    · by_cases h3 : s < 100 + (F.length : Int)
      · obtain ⟨k, hk⟩ : ∃ k : Nat, s - 100 = k := ⟨(s - 100).toNat, by omega⟩
        have hkl : k < F.length := by omega
        obtain ⟨x, hx⟩ : ∃ x, F[k]? = some x := ⟨_, List.getElem?_eq_getElem hkl⟩
        have c0 := HC.out k x hx
        have hres := Lib.hid (show aloneF t F s = x by
          unfold aloneF
          rw [if_neg h1, if_pos ⟨h2, h3⟩, hk, Int.toNat_natCast, List.getD_eq_getElem?_getD, hx]; rfl)
        have i1 : (k : Int) < F.length := by omega
        clear hT h1 hx
        go_enter Tryd.func137, Tryd.ntmps137
        go_wp2_with (first
          | (go_at_call 139; refine HT.out.mono ?_; rintro e w2 ⟨rfl, rfl⟩))
        go_ret
        exact ⟨by rw [hres.out]; rfl, Below.refl _ _⟩
      · have hres := Lib.hid (show aloneF t F s = 0 by unfold aloneF; rw [if_neg h1, if_neg (by omega)])
        clear hT h1
        go_enter Tryd.func137, Tryd.ntmps137
        go_wp2_with (first
          | (go_at_call 139; refine HT.out.mono ?_; rintro e w2 ⟨rfl, rfl⟩))
        go_ret
        exact ⟨by rw [hres.out]; rfl, Below.refl _ _⟩
    · have hres := Lib.hid (show aloneF t F s = 0 by unfold aloneF; rw [if_neg h1, if_neg (by omega)])
      clear hT h1
      go_enter Tryd.func137, Tryd.ntmps137
      go_wp2_with (first
        | (go_at_call 139; refine HT.out.mono ?_; rintro e w2 ⟨rfl, rfl⟩))
      go_ret
      exact ⟨by rw [hres.out]; rfl, Below.refl _ _⟩

theorem goOn_any (a b : Nat) (ha : a < 18446744073709551616) (hb : b < 18446744073709551616) (w : World) :
    Calls Tryd.prog 138 #[.int .u64 a, .int .u64 b] w fun e w' => e = .returned (.int .u64 (goOnF a b : Nat)) ∧ Below w.heap.size w w' := by
  have HH := Lib.hid (has_any a 0 ha w)
  cases h0 : shas a 0 with
  | true =>
    have hres := Lib.hid (show goOnF a b = sless a 1 ||| b from if_pos h0)
    have HO := Lib.hid fun W => of_zero W
    have HL := Lib.hid fun W => less_any a 1 ha (by decide) W
    have HJ := Lib.hid fun W => join_any (sless a 1) b (less_lt _ _ ha) hb W
    go_enter Tryd.func138, Tryd.ntmps138
    go_wp2_with (first
      | (go_at_call 94; refine HH.out.mono ?_; rintro e w2 ⟨rfl, rfl⟩; simp only [h0])
      | (go_at_call 73; refine (HO.out _).mono ?_; rintro e w3 ⟨rfl, rfl⟩)
      | (go_at_call 125; refine (HL.out _).mono ?_; rintro e w4 ⟨rfl, rfl⟩)
      | (go_at_call 120; refine (HJ.out _).mono ?_; rintro e w5 ⟨rfl, rfl⟩))
    go_ret
    exact ⟨by rw [hres.out]; rfl, (Below.refl _ _).alloc (Nat.le_refl _) _⟩
  | false =>
    have hres := Lib.hid (show goOnF a b = a from if_neg (by rw [h0]; decide))
    go_enter Tryd.func138, Tryd.ntmps138
    go_wp2_with (first
      | (go_at_call 94; refine HH.out.mono ?_; rintro e w2 ⟨rfl, rfl⟩; simp only [h0]))
    go_ret
    exact ⟨by rw [hres.out]; rfl, Below.refl _ _⟩

theorem of_drop {t : Nat} {F : List Nat} {l : List Int} {k : Nat} {s : Int} (hs : l[k]? = some s) (row : Nat) : ofF t F (l.drop k) row = if aloneF t F s = 0 then 0 else ofF t F (l.drop (k + 1)) (goOnF row (aloneF t F s)) := by
  obtain ⟨hk, he⟩ := List.getElem?_eq_some_iff.1 hs
  rw [List.drop_eq_getElem_cons hk, he]; rfl

set_option maxHeartbeats 4000000 in
theorem fof_any (B b t : Nat) (F : List Nat) (a : Option Addr) (cap : Nat) (l : List Int) (w : World) (h : TabAt w B b t F) (hc : Cells w a (nums l)) (hl : l.length ≤ 1000000) (hs : ∀ s ∈ l, s ≤ 9223372036854775807) (hF : LowF t F) (ht : t ≤ 63) (hFl : F.length ≤ 1000) :
    Calls Tryd.prog 121 #[.pointer (some ⟨B, 0, none⟩), .slice a l.length cap] w fun e w' => e = .returned (.int .u64 (ofF t F l 1 : Nat)) ∧ Below w.heap.size w w' := by
  have HO := Lib.hid fun W => of_zero W
  have H := Lib.hid h
  have HC := Lib.hid hc
  have HS := Lib.hid hs
  have HF := Lib.hid hF
  have HHT := Lib.hid ht
  clear h hc hs hF ht
  go_enter Tryd.func121, Tryd.ntmps121
  go_wp2_with (go_at_call 73; refine (HO.out _).mono ?_; rintro e w3 ⟨rfl, rfl⟩)
  have hb0 : Below w.heap.size w (w.alloc (.cells #[.int .i64 0] 3)) := (Below.refl _ _).alloc (Nat.le_refl _) _
  have HB0 := Lib.hid hb0
  clear hb0
  go_loopw [5, 13] (fun r i wr => ∃ k row : Nat, k ≤ l.length ∧ i = .int .i64 k ∧ r = .int .u64 row ∧ Hid (LowB t row ∧ ofF t F l 1 = ofF t F (l.drop k) row) ∧ Hid (Below w.heap.size w wr)) (fun _ i _ => l.length - (intOf i).toNat)
  case atStart => exact ⟨0, 1, by omega, rfl, rfl, Lib.hid ⟨low_one t, rfl⟩, HB0⟩
  case round =>
    obtain ⟨k, row, hk, rfl, rfl, HR, HB⟩ := hrel
    have hrl := low_lt HR.out.1 HHT.out
    by_cases hlt : k < l.length
    · obtain ⟨s, hsk⟩ : ∃ s, l[k]? = some s := ⟨_, List.getElem?_eq_getElem hlt⟩
      obtain ⟨ab, ao, rfl, hab, hcc⟩ := (HC.out.below HB.out).get (by unfold nums; intro e; rw [List.map_eq_nil_iff] at e; rw [e] at hlt; simp at hlt)
      have x0 := hcc k _ (nums_at hsk)
      have e1 : (k : Int) < l.length := by omega
      have HAL := Lib.hid (alone_any B b t F s wr (H.out.below HB.out) (HS.out s (List.mem_of_getElem? hsk)) hFl)
      have HDR := Lib.hid (of_drop (t := t) (F := F) hsk row)
      have HLA := Lib.hid (low_alone HF.out s)
      have hal := low_lt HLA.out HHT.out
      clear hcc hsk
      generalize aloneF t F s = x at *
      by_cases hx0 : x = 0
      · subst hx0
        have hres := Lib.hid (show ofF t F l 1 = 0 by rw [HR.out.2, HDR.out, if_pos rfl])
        go_wp2_with (go_at_call 137; refine HAL.out.mono ?_; rintro e w4 ⟨rfl, hb4⟩)
        go_ret
        exact ⟨by rw [hres.out]; rfl, HB.out.trans (hb4.mono HB.out.size)⟩
      · have hxb : ((x : Int) == 0) = false := by simpa using hx0
        have HGO := Lib.hid fun W => goOn_any row x hrl hal W
        have HN := Lib.hid (show LowB t (goOnF row x) ∧ ofF t F l 1 = ofF t F (l.drop (k + 1)) (goOnF row x) from ⟨low_goOn HHT.out HR.out.1 HLA.out, by rw [HR.out.2, HDR.out, if_neg hx0]⟩)
        clear hx0
        go_wp2_with (first
          | (go_at_call 137; refine HAL.out.mono ?_; rintro e w4 ⟨rfl, hb4⟩)
          | (go_at_call 138; refine (HGO.out _).mono ?_; rintro e w5 ⟨rfl, hb5⟩))
        exact ⟨⟨k + 1, goOnF row x, by omega, by go_num, rfl, HN, Lib.hid ((HB.out.trans (hb4.mono HB.out.size)).trans (hb5.mono (Nat.le_trans HB.out.size hb4.size)))⟩, by simp [intOf]; omega⟩
    · have e1 : ¬ (k : Int) < l.length := by omega
      have hres := Lib.hid (show ofF t F l 1 = row by rw [HR.out.2, List.drop_eq_nil_of_le (by omega)]; rfl)
      go_wp2
      go_ret
      exact ⟨by rw [hres.out]; rfl, HB.out⟩

/-- What stands behind a row, as a set. -/
def aheadS (t : Nat) (y : Int) : Nat := if 0 ≤ y ∧ y ≤ (t : Int) then sdig y else 0

set_option maxHeartbeats 4000000 in
theorem fahead_any (B b t : Nat) (F : List Nat) (a : Option Addr) (cap : Nat) (l : List Int) (y : Int) (w : World) (h : TabAt w B b t F) (hc : Cells w a (nums l)) (hl : l.length ≤ 1000000) (hs : ∀ s ∈ l, s ≤ 9223372036854775807) (hF : LowF t F) (ht : t ≤ 63) (hFl : F.length ≤ 1000) :
    Calls Tryd.prog 124 #[.pointer (some ⟨B, 0, none⟩), .slice a l.length cap, .int .i64 y] w fun e w' => e = .returned (.int .u64 (goOnF (ofF t F l 1) (aheadS t y) : Nat)) ∧ Below w.heap.size w w' := by
  have hol := low_lt (low_of ht hF l 1 (low_one t)) ht
  have HTM := Lib.hid (ftm_any B b t F y w h)
  have HOF := Lib.hid fun W (hW : Below w.heap.size w W) => fof_any B b t F a cap l W (h.below hW) (hc.below hW) hl hs hF ht hFl
  have hdl := dig_lt y
  have HSI := Lib.hid fun W => of_sing y W
  clear h hc hs hF ht
  generalize ofF t F l 1 = r at *
  by_cases h0 : y = 0
  · subst h0
    have hres := Lib.hid (show aheadS t 0 = sdig 0 from if_pos (by omega))
    have HGO := Lib.hid fun W => goOn_any r (sdig 0) hol hdl W
    generalize sdig 0 = d at *
    have hbA : ∀ o, Below w.heap.size w (w.alloc o) := fun o => (Below.refl _ _).alloc (Nat.le_refl _) _
    have HBA := Lib.hid hbA
    clear hbA
    go_enter Tryd.func124, Tryd.ntmps124
    go_wp2_with (first
      | (go_at_call 73; refine (HSI.out _).mono ?_; rintro e w3 ⟨rfl, rfl⟩)
      | (go_at_call 121; refine (HOF.out _ (HBA.out _)).mono ?_; rintro e w4 ⟨rfl, hb4⟩)
      | (go_at_call 138; refine (HGO.out _).mono ?_; rintro e w5 ⟨rfl, hb5⟩))
    go_ret
    exact ⟨by rw [hres.out]; rfl, ((HBA.out _).trans (hb4.mono (HBA.out _).size)).trans (hb5.mono (Nat.le_trans (HBA.out _).size hb4.size))⟩
  · have h0b : (y == 0) = false := by simpa using h0
    by_cases h1 : 1 ≤ y ∧ y ≤ (t : Int)
    · have hT : Calls Tryd.prog 139 #[.pointer (some ⟨B, 0, none⟩), .int .i64 y] w fun e w' => e = .returned (.bool true) ∧ w' = w := by
        have := HTM.out; rwa [decide_eq_true h1] at this
      have HT := Lib.hid hT
      have hres := Lib.hid (show aheadS t y = sdig y from if_pos (by omega))
      have HGO := Lib.hid fun W => goOn_any r (sdig y) hol hdl W
      generalize sdig y = d at *
      have hbA : ∀ o, Below w.heap.size w (w.alloc o) := fun o => (Below.refl _ _).alloc (Nat.le_refl _) _
      have HBA := Lib.hid hbA
      clear hbA h1 hT HTM h0
      go_enter Tryd.func124, Tryd.ntmps124
      go_wp2_with (first
        | (go_at_call 139; refine HT.out.mono ?_; rintro e w2 ⟨rfl, rfl⟩)
        | (go_at_call 73; refine (HSI.out _).mono ?_; rintro e w3 ⟨rfl, rfl⟩)
        | (go_at_call 121; refine (HOF.out _ (HBA.out _)).mono ?_; rintro e w4 ⟨rfl, hb4⟩)
        | (go_at_call 138; refine (HGO.out _).mono ?_; rintro e w5 ⟨rfl, hb5⟩))
      go_ret
      exact ⟨by rw [hres.out]; rfl, ((HBA.out _).trans (hb4.mono (HBA.out _).size)).trans (hb5.mono (Nat.le_trans (HBA.out _).size hb4.size))⟩
    · have hT : Calls Tryd.prog 139 #[.pointer (some ⟨B, 0, none⟩), .int .i64 y] w fun e w' => e = .returned (.bool false) ∧ w' = w := by
        have := HTM.out; rwa [decide_eq_false h1] at this
      have HT := Lib.hid hT
      have hres := Lib.hid (show aheadS t y = 0 from if_neg (by omega))
      have HGO := Lib.hid fun W => goOn_any r 0 hol (by decide) W
      clear h1 hT HTM h0
      go_enter Tryd.func124, Tryd.ntmps124
      go_wp2_with (first
        | (go_at_call 139; refine HT.out.mono ?_; rintro e w2 ⟨rfl, rfl⟩)
        | (go_at_call 121; refine (HOF.out _ (Below.refl _ _)).mono ?_; rintro e w4 ⟨rfl, hb4⟩)
        | (go_at_call 138; refine (HGO.out _).mono ?_; rintro e w5 ⟨rfl, hb5⟩))
      go_ret
      exact ⟨by rw [hres.out]; rfl, hb4.trans (hb5.mono hb4.size)⟩

end Go.Proofs.YtejjdfmobiegdaaDoor
