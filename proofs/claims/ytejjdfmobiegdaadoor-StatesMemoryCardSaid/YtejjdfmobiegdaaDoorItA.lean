/- item: items; Less. item: a Maker in memory; right, mayFollow, Right, rest, Next: walked. item: Right, rest, Next: walked. item: rest, Next: walked. item: Next: walked; a closing in memory. -/
import Derived.Test.YtejjdfmobiegdaaDoorReach
import Derived.Test.YtejjdfmobiegdaaDoorShelf
import Derived.Test.YtejjdfmobiegdaaDoorItB
import Derived.Deep.RegionHeld3
import Derived.Lib.Small
set_option linter.unusedVariables false
namespace Go.Proofs.YtejjdfmobiegdaaDoor
open Go.RowKit
open Doc

abbrev It := Int × Int × Int
def itV (x : It) : Value := .agg #[.int .i64 x.1, .int .i64 x.2.1, .int .i64 x.2.2]
def itC (x : It) : List Value := [.int .i64 x.1, .int .i64 x.2.1, .int .i64 x.2.2]
def itsV (l : List It) : List Value := l.flatMap itC
/-- The first that is not nought. -/
def orI : List Int → Int
  | [] => 0
  | x :: l => if x = 0 then orI l else x
def lessIt (a b : It) : Bool := decide (a.1 < b.1 ∨ a.1 = b.1 ∧ (a.2.1 < b.2.1 ∨ a.2.1 = b.2.1 ∧ a.2.2 < b.2.2))
theorem cmp_sign (x y : Int) : (Lib.compareInt x y = 0 ↔ x = y) ∧ (Lib.compareInt x y < 0 ↔ x < y) := by
  unfold Lib.compareInt
  split
  · omega
  · split <;> omega
theorem or_less (a b : It) : decide (orI [Lib.compareInt a.1 b.1, Lib.compareInt a.2.1 b.2.1, Lib.compareInt a.2.2 b.2.2] < 0) = lessIt a b := by
  have h1 := cmp_sign a.1 b.1
  have h2 := cmp_sign a.2.1 b.2.1
  have h3 := cmp_sign a.2.2 b.2.2
  unfold lessIt
  rw [decide_eq_decide]
  simp only [orI]
  by_cases e1 : Lib.compareInt a.1 b.1 = 0
  · rw [if_pos e1]
    by_cases e2 : Lib.compareInt a.2.1 b.2.1 = 0
    · rw [if_pos e2]
      by_cases e3 : Lib.compareInt a.2.2 b.2.2 = 0
      · rw [if_pos e3]; omega
      · rw [if_neg e3]; omega
    · rw [if_neg e2]; omega
  · rw [if_neg e1]; omega
end Go.Proofs.YtejjdfmobiegdaaDoor

set_option linter.unusedVariables false
namespace Go.Proofs.YtejjdfmobiegdaaDoor
open Go.RowKit
open Doc

/-- A Maker, in plain terms. -/
structure MakR where
  terms : Nat
  ra : Option Addr
  rc : Nat
  rights : List RowL
  oa : Option Addr
  oc : Nat
  of : List Nat
  places : Nat
  tb : Value
/-- A Maker as it lies: its block, its rows. -/
structure MakAt (w : World) (B : Nat) (M : MakR) : Prop where
  q : w.heap[B]? = some (.cells #[.int .i64 M.terms, .slice M.ra M.rights.length M.rc, .slice M.oa M.of.length M.oc, .int .u64 M.places, M.tb] 130)
  rr : Cells w M.ra (rowVs M.rights)
  row : ∀ r ∈ M.rights, Cells w r.addr (nums r.row) ∧ r.row.length ≤ r.cap ∧ r.row.length ≤ 6 ∧ r.cap ≤ 9223372036854775807
  off : Cells w M.oa (M.of.map fun (x : Nat) => Value.int .u64 (x : Int))
theorem MakAt.below {w w' : World} {B : Nat} {M : MakR} (h : MakAt w B M) (hb : Below w.heap.size w w') : MakAt w' B M :=
  ⟨(hb.block _ (heap_lt h.q)).trans h.q, h.rr.below hb, fun r hr => ⟨(h.row r hr).1.below hb, (h.row r hr).2⟩, h.off.below hb⟩
/-- What is of use has a place. -/
structure MakOk (M : MakR) : Prop where
  t8 : M.terms ≤ 8
  r24 : M.rights.length ≤ 24
  pl : M.places < 18446744073709551616
  pr : ∀ p, shas M.places p = true → 0 ≤ p ∧ p < (M.rights.length : Int)
  o8 : M.of.length ≤ 8
  ob : ∀ x ∈ M.of, x < 18446744073709551616
/-- The Right of a production. -/
def rightM (M : MakR) (p : Int) : Option (List Int) := if p = -1 then some [100] else if shas M.places p = true then some (M.rights.getD p.toNat ⟨none, 0, []⟩).row else none
def followM (M : MakR) (p a : Int) : Bool := decide (a = 0 ∨ (p ≠ -1 ∧ 1 ≤ a ∧ a ≤ (M.terms : Int)))
def RightEnd (M : MakR) (p : Int) (w : World) (e : Ending) (w' : World) : Prop := Below w.heap.size w w' ∧ match rightM M p with
  | some l => ∃ (a : Option Addr) (c : Nat), e = .returned (.tuple #[.slice a l.length c, .bool true]) ∧ Cells w' a (nums l) ∧ l.length ≤ c ∧ l.length ≤ 6 ∧ c ≤ 9223372036854775807
  | none => e = .returned (.tuple #[.slice none 0 0, .bool false])
set_option maxRecDepth 100000 in
set_option maxHeartbeats 2000000 in
theorem iright_any (B : Nat) (M : MakR) (p : Int) (w : World) (h : MakAt w B M) (hk : MakOk M) :
    Calls Tryd.prog 122 #[.pointer (some ⟨B, 0, none⟩), .int .i64 p] w (RightEnd M p w) := by
  have l0 := heap_lt h.q
  have x1 := (blk_cell (i := 1) h.q rfl).1
  have x3 := (blk_cell (i := 3) h.q rfl).1
  by_cases hp : p = -1
  · have HR := Lib.hid (show RightEnd M p w (.returned (.tuple #[.slice (some ⟨w.heap.size, 0, none⟩) 1 1, .bool true])) (w.alloc (.cells #[.int .i64 100] 3)) by
      unfold RightEnd rightM
      rw [if_pos hp]
      exact ⟨(Below.refl _ _).alloc (Nat.le_refl _) _, some ⟨w.heap.size, 0, none⟩, 1, rfl, cells_new w #[.int .i64 100] 3, by simp, by simp, by omega⟩)
    have e1 : (p == -1) = true := by simp [hp]
    clear h hk hp
    go_enter Tryd.func122, Tryd.ntmps122
    go_wp2
    go_ret2
    exact HR.out
  · have e1 : (p == -1) = false := by simp [hp]
    have HH := Lib.hid fun W => has_any M.places p hk.pl W
    cases hs : shas M.places p with
    | false =>
      have HR := Lib.hid (show RightEnd M p w (.returned (.tuple #[.slice none 0 0, .bool false])) w by
        unfold RightEnd rightM
        rw [if_neg hp, if_neg (by rw [hs]; decide)]
        exact ⟨Below.refl _ _, rfl⟩)
      rw [hs] at HH
      clear h hk hp hs
      go_enter Tryd.func122, Tryd.ntmps122
      go_wp2_with (go_at_call 94; refine (HH.out _).mono ?_; rintro e w2 ⟨rfl, hw2⟩; obtain rfl := hw2.symm)
      go_ret2
      exact HR.out
    | true =>
      obtain ⟨h0, hl⟩ := hk.pr p hs
      obtain ⟨k, rfl⟩ := Int.eq_ofNat_of_zero_le h0
      have hkl : k < M.rights.length := by omega
      obtain ⟨r, hr⟩ : ∃ r, M.rights[k]? = some r := ⟨_, List.getElem?_eq_getElem hkl⟩
      obtain ⟨b, off, hra, hb, hc⟩ := h.rr.get (by intro e; have := rowVs_at hr; rw [e] at this; simp at this)
      have x4 := hc _ _ (rowVs_at hr)
      have hrow := h.row r (List.mem_of_getElem? hr)
      have HR := Lib.hid (show RightEnd M (k : Int) w (.returned (.tuple #[.slice r.addr r.row.length r.cap, .bool true])) w by
        unfold RightEnd rightM
        rw [if_neg hp, if_pos hs, Int.toNat_natCast, List.getD_eq_getElem?_getD, hr]
        exact ⟨Below.refl _ _, r.addr, r.cap, rfl, hrow.1, hrow.2⟩)
      rw [hra] at x1
      rw [hs] at HH
      have e3 : (k : Int) < M.rights.length := by omega
      clear h hk hp hs hl h0 hc hr hrow hra
      go_enter Tryd.func122, Tryd.ntmps122
      go_wp2_with (go_at_call 94; refine (HH.out _).mono ?_; rintro e w2 ⟨rfl, hw2⟩; obtain rfl := hw2.symm)
      go_ret2
      exact HR.out
set_option maxRecDepth 100000 in
set_option maxHeartbeats 2000000 in
theorem ifollow_any (B : Nat) (M : MakR) (p a : Int) (w : World) (h : MakAt w B M) :
    Calls Tryd.prog 123 #[.pointer (some ⟨B, 0, none⟩), .int .i64 p, .int .i64 a] w fun e w' => e = .returned (.bool (followM M p a)) ∧ w' = w := by
  have l0 := heap_lt h.q
  have x0 := (blk_cell (i := 0) h.q rfl).1
  clear h
  by_cases ha : a = 0
  · have e1 : (a == 0) = true := by simp [ha]
    have HR := Lib.hid (show followM M p a = true by unfold followM; rw [decide_eq_true_iff]; exact .inl ha)
    clear ha
    go_enter Tryd.func123, Tryd.ntmps123
    go_wp2
    go_ret
    exact ⟨ret_bool HR.out.symm, rfl⟩
  have e1 : (a == 0) = false := by simp [ha]
  by_cases hp : p = -1
  · have e2 : (p != -1) = false := by simp [hp]
    have HR := Lib.hid (show followM M p a = false by unfold followM; rw [decide_eq_false_iff_not]; omega)
    clear ha hp
    go_enter Tryd.func123, Tryd.ntmps123
    go_wp2
    go_ret
    exact ⟨ret_bool HR.out.symm, rfl⟩
  have e2 : (p != -1) = true := by simp [hp]
  by_cases h1 : 1 ≤ a
  · by_cases h2 : a ≤ (M.terms : Int)
    · have HR := Lib.hid (show followM M p a = true by unfold followM; rw [decide_eq_true_iff]; exact .inr ⟨hp, h1, h2⟩)
      clear ha hp
      go_enter Tryd.func123, Tryd.ntmps123
      go_wp2
      go_ret
      exact ⟨ret_bool HR.out.symm, rfl⟩
    · have HR := Lib.hid (show followM M p a = false by unfold followM; rw [decide_eq_false_iff_not]; omega)
      clear ha hp
      go_enter Tryd.func123, Tryd.ntmps123
      go_wp2
      go_ret
      exact ⟨ret_bool HR.out.symm, rfl⟩
  · have HR := Lib.hid (show followM M p a = false by unfold followM; rw [decide_eq_false_iff_not]; omega)
    clear ha hp
    go_enter Tryd.func123, Tryd.ntmps123
    go_wp2
    go_ret
    exact ⟨ret_bool HR.out.symm, rfl⟩
end Go.Proofs.YtejjdfmobiegdaaDoor

set_option linter.unusedVariables false
namespace Go.Proofs.YtejjdfmobiegdaaDoor
open Go.RowKit
open Doc

def isIt (M : MakR) (x : It) : Bool := match rightM M x.1 with
  | some l => decide (0 ≤ x.2.1 ∧ x.2.1 ≤ (l.length : Int)) && followM M x.1 x.2.2
  | none => false
set_option maxRecDepth 100000 in
set_option maxHeartbeats 4000000 in
theorem isIt_any (B : Nat) (M : MakR) (x : It) (w : World) (h : MakAt w B M) (hk : MakOk M) :
    Calls Tryd.prog 99 #[.pointer (some ⟨B, 0, none⟩), itV x] w fun e w' => e = .returned (.bool (isIt M x)) ∧ Below w.heap.size w w' := by
  obtain ⟨p, d, a⟩ := x
  unfold itV
  simp only at *
  have hS : Below w.heap.size w (w.alloc (.cells #[.int .i64 p, .int .i64 d, .int .i64 a] 53)) := (Below.refl _ _).alloc (Nat.le_refl _) _
  have hQ := heap_alloc_new w (.cells #[.int .i64 p, .int .i64 d, .int .i64 a] 53)
  have x0 := (blk_cell (i := 0) hQ rfl).1
  have l0 := heap_lt hQ
  have HR := Lib.hid (iright_any B M p _ (h.below hS) hk)
  have HF := Lib.hid fun (W : World) (hW : Below w.heap.size w W) => ifollow_any B M p a W (h.below hW)
  have HS := Lib.hid hS
  have HQ := Lib.hid hQ
  have HI := Lib.hid (show isIt M (p, d, a) = match rightM M p with
    | some l => decide (0 ≤ d ∧ d ≤ (l.length : Int)) && followM M p a
    | none => false from rfl)
  generalize isIt M (p, d, a) = I at *
  clear h hS hQ
  go_enter Tryd.func99, Tryd.ntmps99
  go_upto_region 1 with fail
  generalize w.alloc (.cells #[.int .i64 p, .int .i64 d, .int .i64 a] 53) = S at *
  generalize hB : w.heap.size = BI at *
  have HBE := Lib.hid hB
  clear hB
  cases hr : rightM M p with
  | none =>
    rw [hr] at HI
    go_upto_region 2 with (go_at_call 122; refine HR.out.mono ?_; rintro e w2 ⟨hb2, he⟩; rw [hr] at he; obtain rfl := he)
    have HB2 := Lib.hid hb2
    clear hr hb2
    go_wp2
    go_ret
    exact ⟨ret_bool HI.out.symm, by rw [HBE.out]; exact HS.out.trans (HB2.out.mono (by omega))⟩
  | some l =>
    rw [hr] at HI
    go_upto_region 2 with (go_at_call 122; refine HR.out.mono ?_; rintro e w2 ⟨hb2, he⟩; rw [hr] at he; obtain ⟨la, lc, rfl, hlc, hll, hl6, hlm⟩ := he)
    have hq2 := (hb2.block BI l0).trans HQ.out
    have y0 := (blk_cell (i := 0) hq2 rfl).1
    have y1 := (blk_cell (i := 1) hq2 rfl).1
    have y2 := (blk_cell (i := 2) hq2 rfl).1
    have y3 := heap_lt hq2
    have hBw : Below w.heap.size w w2 := by rw [HBE.out]; exact HS.out.trans (hb2.mono (by omega))
    have HF2 := Lib.hid (HF.out w2 (by rw [HBE.out] at hBw; exact hBw))
    have HB2 := Lib.hid hBw
    clear hr hb2 hq2 hBw hlc x0 l0 HF HR
    by_cases h0 : 0 ≤ d
    · by_cases h1 : d ≤ (l.length : Int)
      · have HV := Lib.hid (show I = followM M p a by rw [HI.out]; simp [h0, h1])
        generalize followM M p a = V at *
        go_wp2_with (go_at_call 123; refine HF2.out.mono ?_; rintro e w3 ⟨rfl, hw3⟩; obtain rfl := hw3.symm)
        go_ret
        exact ⟨ret_bool HV.out.symm, by rw [HBE.out] at *; exact HB2.out⟩
      · have HV := Lib.hid (show I = false by rw [HI.out]; simp [h1])
        go_wp2
        go_ret
        exact ⟨ret_bool HV.out.symm, by rw [HBE.out] at *; exact HB2.out⟩
    · have HV := Lib.hid (show I = false by rw [HI.out]; simp [h0])
      go_wp2
      go_ret
      exact ⟨ret_bool HV.out.symm, by rw [HBE.out] at *; exact HB2.out⟩
end Go.Proofs.YtejjdfmobiegdaaDoor

set_option linter.unusedVariables false
namespace Go.Proofs.YtejjdfmobiegdaaDoor
open Go.RowKit
open Doc

theorem tail_cells {W : World} {rb ro rc k : Nat} {l : List Int} (h : Cells W (some ⟨rb, ro, none⟩) (nums l)) (hk : k ≤ l.length) (hc : l.length ≤ rc) : Cells W (if rc = k then some ⟨rb, ro, none⟩ else some ⟨rb, ro + k, none⟩) (nums (l.drop k)) := by
  by_cases hd : k = l.length
  · left
    rw [hd, List.drop_length]; rfl
  · rw [if_neg (by omega)]
    obtain ⟨b, o, he, hb, hcc⟩ := h.get (by unfold nums; intro e; rw [List.map_eq_nil_iff] at e; rw [e] at hk hd; simp at hk hd; exact hd hk)
    cases he
    refine .inr ⟨rb, ro + k, rfl, hb, fun j u hj => ?_⟩
    rw [Nat.add_assoc]
    refine hcc (k + j) u ?_
    unfold nums at hj ⊢
    rw [List.map_drop, List.getElem?_drop] at hj
    exact hj
def restM (M : MakR) (x : It) : List Int := if isIt M x = true then ((rightM M x.1).getD []).drop x.2.1.toNat else []
theorem isIt_some {M : MakR} {x : It} (h : isIt M x = true) : ∃ l, rightM M x.1 = some l ∧ 0 ≤ x.2.1 ∧ x.2.1 ≤ (l.length : Int) := by
  unfold isIt at h
  cases hr : rightM M x.1 with
  | none => rw [hr] at h; cases h
  | some l =>
    rw [hr] at h
    simp only [Bool.and_eq_true, decide_eq_true_eq] at h
    exact ⟨l, rfl, h.1.1, h.1.2⟩
def RestEnd (M : MakR) (x : It) (w : World) (e : Ending) (w' : World) : Prop := Below w.heap.size w w' ∧ ∃ (a : Option Addr) (c : Nat), e = .returned (.slice a (restM M x).length c) ∧ Cells w' a (nums (restM M x)) ∧ (restM M x).length ≤ c ∧ (restM M x).length ≤ 6 ∧ c ≤ 9223372036854775807
set_option maxRecDepth 100000 in
set_option maxHeartbeats 4000000 in
theorem irest_any (B : Nat) (M : MakR) (x : It) (w : World) (h : MakAt w B M) (hk : MakOk M) :
    Calls Tryd.prog 104 #[.pointer (some ⟨B, 0, none⟩), itV x] w (RestEnd M x w) := by
  have HIT := Lib.hid (show isIt M x = true → ∃ l, rightM M x.1 = some l ∧ 0 ≤ x.2.1 ∧ x.2.1 ≤ (l.length : Int) from isIt_some)
  have HRM := Lib.hid (show restM M x = if isIt M x = true then ((rightM M x.1).getD []).drop x.2.1.toNat else [] from rfl)
  have HEND := Lib.hid (show ∀ e w', Below w.heap.size w w' → (∃ (a : Option Addr) (c : Nat), e = Ending.returned (.slice a (restM M x).length c) ∧ Cells w' a (nums (restM M x)) ∧ (restM M x).length ≤ c ∧ (restM M x).length ≤ 6 ∧ c ≤ 9223372036854775807) → RestEnd M x w e w' from fun e w' h1 h2 => ⟨h1, h2⟩)
  have HIS := Lib.hid fun W hW => isIt_any B M x W hW hk
  obtain ⟨p, d, a⟩ := x
  unfold itV at *
  simp only at *
  have hS : Below w.heap.size w (w.alloc (.cells #[.int .i64 p, .int .i64 d, .int .i64 a] 53)) := (Below.refl _ _).alloc (Nat.le_refl _) _
  have hQ := heap_alloc_new w (.cells #[.int .i64 p, .int .i64 d, .int .i64 a] 53)
  have x0 := (blk_cell (i := 0) hQ rfl).1
  have x1 := (blk_cell (i := 1) hQ rfl).1
  have x2 := (blk_cell (i := 2) hQ rfl).1
  have l0 := heap_lt hQ
  have HI := Lib.hid (HIS.out _ (h.below hS))
  have HR := Lib.hid fun (W : World) (hW : Below w.heap.size w W) => iright_any B M p W (h.below hW) hk
  have HS := Lib.hid hS
  have HQ := Lib.hid hQ
  generalize RestEnd M (p, d, a) w = K at *
  generalize restM M (p, d, a) = L at *
  generalize isIt M (p, d, a) = I at *
  clear h hS hQ HIS
  go_enter Tryd.func104, Tryd.ntmps104
  go_upto_region 1 with fail
  generalize w.alloc (.cells #[.int .i64 p, .int .i64 d, .int .i64 a] 53) = S at *
  generalize hB : w.heap.size = BI at *
  have HBE := Lib.hid hB
  clear hB
  cases I with
  | false =>
    have HL := Lib.hid (show L = [] by rw [HRM.out]; rfl)
    go_upto_region 2 with (go_at_call 99; refine HI.out.mono ?_; rintro e w2 ⟨rfl, hb2⟩)
    have HB2 := Lib.hid hb2
    clear hb2
    go_wp2
    refine HEND.out _ _ (HS.out.trans (HB2.out.mono (by omega))) ⟨none, 0, by rw [HL.out]; rfl, by rw [HL.out]; exact .inl rfl, by rw [HL.out]; simp, by rw [HL.out]; simp, by omega⟩
  | true =>
    obtain ⟨l, hrl, hd0, hdl⟩ := HIT.out rfl
    obtain ⟨k, rfl⟩ := Int.eq_ofNat_of_zero_le hd0
    have hkl : k ≤ l.length := by omega
    have HL := Lib.hid (show L = l.drop k by rw [HRM.out, if_pos rfl, hrl]; rfl)
    go_upto_region 3 with (go_at_call 99; refine HI.out.mono ?_; rintro e w2 ⟨rfl, hb2⟩)
    have hq2 := (hb2.block BI l0).trans HQ.out
    have y0 := (blk_cell (i := 0) hq2 rfl).1
    have y3 := heap_lt hq2
    have hBw : Below BI w w2 := HS.out.trans (hb2.mono (by omega))
    have HR2 := Lib.hid (HR.out w2 hBw)
    have HB2 := Lib.hid hBw
    have HQ2 := Lib.hid hq2
    clear x0 x1 x2 l0 hb2 hBw hq2 HR HI
    go_upto_region 4 with (go_at_call 122; refine HR2.out.mono ?_; rintro e w3 ⟨hb3, he⟩; rw [hrl] at he; obtain ⟨la, lc, rfl, hlc, hll, hl6, hlm⟩ := he)
    have hq3 := (hb3.block BI y3).trans HQ2.out
    have z1 := (blk_cell (i := 1) hq3 rfl).1
    have z3 := heap_lt hq3
    have HB3 := Lib.hid (HB2.out.trans (hb3.mono (Nat.le_of_lt y3)))
    have HLC := Lib.hid hlc
    clear hb3 hq3 hlc y0
    have hkc : k ≤ lc := by omega
    have hkc' : (k : Int) ≤ lc := by omega
    have hkl' : (k : Int) ≤ l.length := by omega
    cases la with
    | none =>
      have hl0 : l = [] := by
        rcases HLC.out with h0 | ⟨b, o, h1, _⟩
        · unfold nums at h0; rwa [List.map_eq_nil_iff] at h0
        · cases h1
      subst hl0
      have hk0 : k = 0 := by simpa using hkl
      subst hk0
      go_wp2
      all_goals
        refine HEND.out _ _ HB3.out ⟨_, _, by rw [HL.out]; rfl, by rw [HL.out]; exact .inl rfl, by rw [HL.out]; simp, by rw [HL.out]; simp, by omega⟩
    | some ad =>
      go_wp2
      · have hlk2 : k = l.length := by omega
        refine HEND.out _ _ HB3.out ⟨_, _, by rw [HL.out, List.length_drop], by rw [HL.out, hlk2, List.drop_length]; exact .inl rfl, by rw [HL.out, List.length_drop]; omega, by rw [HL.out, List.length_drop]; omega, by omega⟩
      · refine HEND.out _ _ HB3.out ⟨_, _, by rw [HL.out, List.length_drop], ?_, by rw [HL.out, List.length_drop]; omega, by rw [HL.out, List.length_drop]; omega, by omega⟩
        rw [HL.out]
        by_cases hd : k = l.length
        · rw [hd, List.drop_length]; exact .inl rfl
        · obtain ⟨b, o, he, _, _⟩ := HLC.out.get (by unfold nums; intro e; rw [List.map_eq_nil_iff] at e; rw [e] at hkl hd; simp at hkl hd; exact hd hkl)
          cases he
          have ht := tail_cells HLC.out hkl hll
          rw [if_neg (by omega)] at ht
          have e : (⟨b, o, none⟩ : Addr).add k = ⟨b, o + k, none⟩ := by unfold Addr.add; split <;> simp_all
          rw [e]
          exact ht
end Go.Proofs.YtejjdfmobiegdaaDoor

set_option linter.unusedVariables false
namespace Go.Proofs.YtejjdfmobiegdaaDoor
open Go.RowKit
open Doc

/-- The symbol behind the dot. -/
def nextM (M : MakR) (x : It) : Option Int := (restM M x).head?
set_option maxRecDepth 100000 in
set_option maxHeartbeats 4000000 in
theorem inext_any (B : Nat) (M : MakR) (x : It) (w : World) (h : MakAt w B M) (hk : MakOk M) :
    Calls Tryd.prog 78 #[.pointer (some ⟨B, 0, none⟩), itV x] w fun e w' => e = .returned (.tuple #[.int .i64 ((nextM M x).getD 0), .bool (nextM M x).isSome]) ∧ Below w.heap.size w w' := by
  have HRE := Lib.hid fun W hW => irest_any B M x W hW hk
  have HNX := Lib.hid (show nextM M x = (restM M x).head? from rfl)
  unfold RestEnd at HRE
  generalize nextM M x = nx at *
  generalize restM M x = L at *
  obtain ⟨p, d, a⟩ := x
  unfold itV at *
  simp only at *
  have hS : Below w.heap.size w (w.alloc (.cells #[.int .i64 p, .int .i64 d, .int .i64 a] 53)) := (Below.refl _ _).alloc (Nat.le_refl _) _
  have hQ := heap_alloc_new w (.cells #[.int .i64 p, .int .i64 d, .int .i64 a] 53)
  have x0 := (blk_cell (i := 0) hQ rfl).1
  have x1 := (blk_cell (i := 1) hQ rfl).1
  have x2 := (blk_cell (i := 2) hQ rfl).1
  have l0 := heap_lt hQ
  have HR := Lib.hid (HRE.out _ (h.below hS))
  have HS := Lib.hid hS
  clear h hS hQ HRE
  go_enter Tryd.func78, Tryd.ntmps78
  go_upto_region 1 with fail
  generalize w.alloc (.cells #[.int .i64 p, .int .i64 d, .int .i64 a] 53) = S at *
  generalize hB : w.heap.size = BI at *
  have HBE := Lib.hid hB
  clear hB
  go_upto_region 2 with (go_at_call 104; refine HR.out.mono ?_; rintro e w2 ⟨hb2, la, lc, rfl, hlc, hll, hl6, hlm⟩)
  have HB2 := Lib.hid (HS.out.trans (hb2.mono (Nat.le_of_lt l0)))
  have HLC := Lib.hid hlc
  clear hb2 hlc x0 x1 x2 l0 HR
  cases L with
  | nil =>
    have HV := Lib.hid HNX.out
    go_wp2
    go_ret2
    exact ⟨by rw [HV.out]; rfl, by rw [HBE.out]; exact HB2.out⟩
  | cons s l =>
    obtain ⟨b, o, he, hb, hc⟩ := HLC.out.get (by simp [nums])
    subst he
    have c0 := hc 0 (.int .i64 s) rfl
    rw [Nat.add_zero] at c0
    have HV := Lib.hid HNX.out
    have e1 : ¬ ((s :: l).length : Int) = 0 := by rw [List.length_cons]; omega
    have e2 : (((s :: l).length : Int) == 0) = false := by rw [List.length_cons]; simp; omega
    have e3 : (0 : Int) < ((s :: l).length : Int) := by rw [List.length_cons]; omega
    clear hc
    generalize hn : (s :: l).length = n at *
    clear hn
    go_wp2
    go_ret2
    exact ⟨by rw [HV.out]; rfl, by rw [HBE.out]; exact HB2.out⟩
end Go.Proofs.YtejjdfmobiegdaaDoor
