/- first: grow and New, walked. -/
import Derived.Test.YtejjdfmobiegdaaDoorFirstW
import Derived.Test.YtejjdfmobiegdaaDoorRaw
import Derived.Test.YtejjdfmobiegdaaDoorReach
import Derived.Laws.MakeOwn
import Derived.Laws.OwnMore
set_option linter.unusedVariables false
namespace Go.Proofs.YtejjdfmobiegdaaDoor
open Go.RowKit
open Doc

theorem us_set (F : List Nat) (i v : Nat) : (us F).toArray.setIfInBounds i (.int .u64 (v : Int)) = (us (F.set i v)).toArray := by
  rw [List.setIfInBounds_toArray]
  unfold us
  rw [List.map_set]
theorem TabAt.set {w : World} {B b t : Nat} {F : List Nat} (h : TabAt w B b t F) {i : Nat} (v : Nat) (hi : i < F.length) : TabAt (w.setCell ⟨b, i, none⟩ (.int .u64 (v : Int))) B b t (F.set i v) := by
  refine ⟨?_, ?_, h.ne⟩
  · rw [Below.heap_setCell _ _ _ _ h.ne, h.q, List.length_set]
  · rw [heap_set w b i _ _ _ h.c (by simp [us]; omega)]
    simp only [Array.set!_eq_setIfInBounds]
    rw [us_set]

structure GrowSt (t : Nat) (ps : List (Int × List Int)) (l : List Int) (F : List Nat) (k : Nat) (gb : Bool) (E : List Nat) : Prop where
  e : E = growF t ps (l.take k) F
  g : gb = true ↔ E ≠ F
theorem growF_snoc (t : Nat) (ps : List (Int × List Int)) (l : List Int) (F : List Nat) {k : Nat} {q : Int} (hq : l[k]? = some q) : growF t ps (l.take (k + 1)) F = stepF t ps (growF t ps (l.take k) F) q := by
  unfold growF
  rw [List.take_add_one, hq]; simp
theorem GrowSt.step {t : Nat} {ps : List (Int × List Int)} {l : List Int} {F : List Nat} {k : Nat} {gb : Bool} {E : List Nat} (h : GrowSt t ps l F k gb E) {j : Nat} {p : Int × List Int} (hq : l[k]? = some (j : Int)) (hp : ps[j]? = some p) {i : Nat} (hi : p.1 - 100 = (i : Int)) (hil : i < E.length) {x : Nat} (hx : E[i]? = some x) (gb' : Bool) (hg : gb' = true ↔ (gb = true ∨ (x ||| ofF t E p.2 1) ≠ x)) :
    GrowSt t ps l F (k + 1) gb' (E.set i (x ||| ofF t E p.2 1)) := by
  have e1 : E.set i (x ||| ofF t E p.2 1) = stepF t ps E (j : Int) := by
    unfold stepF
    rw [Int.toNat_natCast, hp]
    simp only
    rw [hi, Int.toNat_natCast, List.getD_eq_getElem?_getD, hx]; rfl
  have hext : SubF F E := by rw [h.e]; exact grow_ext t ps _ F
  have hE : E.length = F.length := by rw [h.e]; exact grow_len t ps _ F
  have hstep : SubF E (E.set i (x ||| ofF t E p.2 1)) := by rw [e1]; exact step_ext t ps E _
  refine ⟨?_, ?_⟩
  · rw [e1, growF_snoc t ps l F hq, ← h.e]
  · rw [hg, h.g]
    have hsame : (x ||| ofF t E p.2 1) = x ↔ E.set i (x ||| ofF t E p.2 1) = E := by
      constructor
      · intro e
        rw [e]
        exact List.ext_getElem? fun m => by
          rw [List.getElem?_set]
          split
          · rename_i hm; subst hm; first | rw [hx] | rw [if_pos hil, hx]
          · rfl
      · intro e
        have : (E.set i (x ||| ofF t E p.2 1))[i]? = E[i]? := by rw [e]
        rw [List.getElem?_set, if_pos rfl, if_pos hil, hx] at this
        exact Option.some.inj this
    constructor
    · rintro (h1 | h1)
      · intro e
        rw [e] at hstep
        exact h1 (SubF.anti hE hstep hext)
      · intro e
        rw [e] at hstep
        have := SubF.anti hE hstep hext
        exact h1 (hsame.2 (e.trans this.symm))
    · intro h1
      by_cases h2 : E = F
      · right
        intro h3
        exact h1 ((hsame.1 h3).trans h2)
      · exact .inl h2

set_option maxRecDepth 100000 in
set_option maxHeartbeats 8000000 in
theorem fgrow_any (B b t : Nat) (F : List Nat) (a3 : Option Addr) (c3 : Nat) (ls : List Lay) (ap : Option Addr) (cp : Nat) (l : List Int) (w0 w : World) (h0 : Below w0.heap.size w0 w) (hB : w0.heap.size ≤ B) (hb : w0.heap.size ≤ b) (h : TabAt w B b t F)
    (h3 : Cells w0 a3 (lays ls)) (h4 : ∀ p ∈ ls, Cells w0 p.addr (nums p.right)) (hc : Cells w0 ap (nums l)) (hlk : ∀ k ∈ l, 0 ≤ k ∧ k < (ls.length : Int)) (hp : ∀ p ∈ ls, (100 ≤ p.left ∧ p.left < 100 + (F.length : Int)) ∧ Small p.right ∧ p.right.length ≤ 1000000) (hF : LowF t F) (ht : t ≤ 63) (hFl : F.length ≤ 1000) (hll : l.length ≤ 1000000) (hls : ls.length ≤ 1000000) :
    Calls Tryd.prog 97 #[.pointer (some ⟨B, 0, none⟩), .slice a3 ls.length c3, .slice ap l.length cp] w fun e w' =>
      e = .returned (.bool (decide (growF t (ls.map Lay.plain) l F ≠ F))) ∧ TabAt w' B b t (growF t (ls.map Lay.plain) l F) ∧ Below w0.heap.size w0 w' := by
  have H0 := Lib.hid h0
  have H := Lib.hid h
  have H3 := Lib.hid h3
  have H4 := Lib.hid h4
  have HC := Lib.hid hc
  have HLK := Lib.hid hlk
  have HP := Lib.hid hp
  have HF := Lib.hid hF
  have HT := Lib.hid ht
  have HB := Lib.hid hB
  have Hb := Lib.hid hb
  clear h0 h h3 h4 hc hlk hp hF ht hB hb
  go_enter Tryd.func97, Tryd.ntmps97
  go_wp2
  go_loopw [7, 15] (fun g i wr => ∃ (k : Nat) (gb : Bool) (E : List Nat), k ≤ l.length ∧ i = .int .i64 k ∧ g = .bool gb ∧ Hid (GrowSt t (ls.map Lay.plain) l F k gb E) ∧ Hid (TabAt wr B b t E) ∧ Hid (Below w0.heap.size w0 wr)) (fun _ i _ => l.length - (intOf i).toNat)
  case atStart => exact ⟨0, false, F, by omega, rfl, rfl, Lib.hid ⟨rfl, by simp⟩, H, H0⟩
  case round =>
    obtain ⟨k, gb, E, hk, rfl, rfl, HG, HTA, HBE⟩ := hrel
    by_cases hlt : k < l.length
    · obtain ⟨q, hq⟩ : ∃ q, l[k]? = some q := ⟨_, List.getElem?_eq_getElem hlt⟩
      have hqr := HLK.out q (List.mem_of_getElem? hq)
      obtain ⟨j, rfl⟩ := Int.eq_ofNat_of_zero_le hqr.1
      have hjl : j < ls.length := by omega
      obtain ⟨p, hp⟩ : ∃ p, ls[j]? = some p := ⟨_, List.getElem?_eq_getElem hjl⟩
      have hpm := List.mem_of_getElem? hp
      have hEl : E.length = F.length := by rw [HG.out.e]; exact grow_len _ _ _ _
      have hElow : LowF t E := by rw [HG.out.e]; exact low_grow HT.out _ HF.out
      obtain ⟨pl, pr, pa, pc⟩ := p
      obtain ⟨⟨hp1, hp2⟩, hp3, hp4⟩ := HP.out _ hpm
      simp only at hp1 hp2 hp3 hp4
      obtain ⟨i, hi⟩ := Int.eq_ofNat_of_zero_le (show 0 ≤ pl - 100 by omega)
      have hil : i < E.length := by omega
      obtain ⟨x, hx⟩ : ∃ x, E[i]? = some x := ⟨_, List.getElem?_eq_getElem hil⟩
      obtain ⟨lb, lo, rfl, hlb, hlc⟩ := (HC.out.below HBE.out).get (by unfold nums; intro e; rw [List.map_eq_nil_iff] at e; rw [e] at hlt; simp at hlt)
      have x0 := hlc k _ (nums_at hq)
      obtain ⟨b3, o3, rfl, hb3, hc3⟩ := (H3.out.below HBE.out).get (by intro e; have := (lays_at ls j _ hp).1; rw [e] at this; simp at this)
      have x1 := hc3 _ _ (lays_at ls j _ hp).1
      have x2 := hc3 _ _ (lays_at ls j _ hp).2
      rw [← Nat.add_assoc] at x2
      simp only at x1 x2
      have e1 : (k : Int) < l.length := by omega
      have e2 : (j : Int) < ls.length := by omega
      have e3 : (i : Int) < E.length := by omega
      have y1 := (blk_cell (i := 1) (u := .slice (some ⟨b, 0, none⟩) E.length E.length) HTA.out.q rfl).1
      have y2 := heap_lt HTA.out.q
      have y3 := HTA.out.cell hx
      have y4 := heap_lt HTA.out.c
      have hbA : Below wr.heap.size wr (wr.alloc (.cells #[.int .i64 pl, .slice pa pr.length pc] 68)) := (Below.refl _ _).alloc (Nat.le_refl _) _
      have qA := heap_alloc_new wr (.cells #[.int .i64 pl, .slice pa pr.length pc] 68)
      have HOFC := Lib.hid fun (W : World) (hW : Below wr.heap.size wr W) => fof_any B b t E pa pc pr W (HTA.out.below hW) ((show Cells w0 pa (nums pr) from H4.out _ hpm).below HBE.out |>.below hW) hp4 (fun s hs => by have := hp3 s hs; omega) hElow HT.out (by omega)
      have hxl : x < 18446744073709551616 := by
        have := low_lt (hElow i) HT.out
        rwa [List.getD_eq_getElem?_getD, hx] at this
      have hol := low_lt (low_of HT.out hElow pr 1 (low_one t)) HT.out
      have HXX := Lib.hid hx
      have HJO := Lib.hid fun W => join_any x (ofF t E pr 1) hxl hol W
      have HST := Lib.hid fun gb' hg => HG.out.step (p := (pl, pr)) hq (by rw [List.getElem?_map, hp]; rfl) hi hil hx gb' hg
      simp only at HST
      have HQ := Lib.hid qA
      have HBA := Lib.hid hbA
      have hsz := hbA.size
      clear hlc hq hqr hp hpm hc3 qA hElow hp3 hxl hol hbA hx
      generalize ofF t E pr 1 = X at *
      go_upto_region 6 with fail
      have HBW := Lib.hid (HBE.out.trans (HBA.out.mono HBE.out.size))
      have HTA2 := Lib.hid (HTA.out.below HBA.out)
      have z0 := (blk_cell (i := 0) (u := .int .i64 pl) HQ.out rfl).1
      have z1 := (blk_cell (i := 1) (u := .slice pa pr.length pc) HQ.out rfl).1
      have z2 := heap_lt HQ.out
      have v1 := (HBA.out.cell (p := ⟨B, 1, none⟩) y2).trans y1
      have v3 := (HBA.out.cell (p := ⟨b, i, none⟩) y4).trans y3
      have v2 : B < (wr.alloc (.cells #[.int .i64 pl, .slice pa pr.length pc] 68)).heap.size := Nat.lt_of_lt_of_le y2 hsz
      have v4 : b < (wr.alloc (.cells #[.int .i64 pl, .slice pa pr.length pc] 68)).heap.size := Nat.lt_of_lt_of_le y4 hsz
      clear y1 y2 y3 y4 hsz
      have HOFD := Lib.hid fun (W : World) (hW : Below (wr.alloc (.cells #[.int .i64 pl, .slice pa pr.length pc] 68)).heap.size (wr.alloc (.cells #[.int .i64 pl, .slice pa pr.length pc] 68)) W) => HOFC.out W (HBA.out.trans (hW.mono HBA.out.size))
      clear HOFC HBA
      generalize hSeq : wr.alloc (.cells #[.int .i64 pl, .slice pa pr.length pc] 68) = S at *
      clear hSeq
      generalize hPB : wr.heap.size = PB at *
      clear hPB
      go_region
      all_goals
        go_upto_region 8 with (first
          | (go_at_call 121; refine (HOFD.out _ (below_drews (Below.refl _ _) 1)).mono ?_; rintro e w4 ⟨rfl, hb4⟩)
          | (go_at_call 120; refine (HJO.out _).mono ?_; rintro e w5 ⟨rfl, rfl⟩))
        have hb5 := (Below.refl S.heap.size S).drew.trans hb4
        have g1 := (hb5.cell (p := ⟨B, 1, none⟩) v2).trans v1
        have g2 : B < w5.heap.size := Nat.lt_of_lt_of_le v2 hb5.size
        have g3 := (hb5.cell (p := ⟨PB, 0, none⟩) z2).trans z0
        have g4 : PB < w5.heap.size := Nat.lt_of_lt_of_le z2 hb5.size
        have g5 := heap_lt (HTA2.out.below hb5).c
        have g6 := (blk_cell (i := i) (u := .int .u64 x) (HTA2.out.below hb5).c (by simpa using us_at (show E[i]? = some x from by
          have := HXX.out; exact this)))
        obtain ⟨g6, g7⟩ := g6
        have HTF := Lib.hid ((HTA2.out.below hb5).set (x ||| X) hil)
        have HBF := Lib.hid ((HBW.out.trans (hb5.mono HBW.out.size)).setCell (p := ⟨b, i, none⟩) Hb.out (.int .u64 ((x ||| X : Nat) : Int)))
        clear v1 v2 v3 v4 z0 z1 z2 hb4 hb5 HBW HTA2 x0 x1 x2
        by_cases hnw : (x ||| X) = x
        · have hnb : (((x ||| X : Nat) : Int) != (x : Int)) = false := by rw [hnw]; simp
          have HN := Lib.hid (HST.out gb (by constructor <;> intro h <;> first | exact .inl h | (rcases h with h | h; exact h; exact absurd hnw h)))
          clear hnw
          cases gb
          all_goals
            go_region
            all_goals
              go_wp2
              exact ⟨⟨k + 1, _, _, by omega, by go_num, by rfl, HN, Lib.hid ⟨HTF.out.q, HTF.out.c, HTF.out.ne⟩, Lib.hid HBF.out.drew⟩, by simp [intOf]; omega⟩
        · have hnb : (((x ||| X : Nat) : Int) != (x : Int)) = true := by
            have : ((x ||| X : Nat) : Int) ≠ (x : Int) := by omega
            simpa using this
          have HN := Lib.hid (HST.out true (by simp [hnw]))
          clear hnw
          cases gb
          all_goals
            go_region
            all_goals
              go_wp2
              exact ⟨⟨k + 1, _, _, by omega, by go_num, by rfl, HN, Lib.hid ⟨HTF.out.q, HTF.out.c, HTF.out.ne⟩, Lib.hid HBF.out.drew⟩, by simp [intOf]; omega⟩
    · have e1 : ¬ (k : Int) < l.length := by omega
      have hfin : E = growF t (ls.map Lay.plain) l F := by rw [HG.out.e, List.take_of_length_le (by omega)]
      have hgb : gb = decide (growF t (ls.map Lay.plain) l F ≠ F) := by rw [← hfin, Bool.eq_iff_iff, decide_eq_true_eq]; exact HG.out.g
      have HFIN := Lib.hid hfin
      have HGB := Lib.hid hgb
      clear hfin hgb
      go_wp2
      go_ret
      exact ⟨ret_bool (HGB.out.trans (by simp)), HFIN.out ▸ HTA.out, HBE.out⟩

def valNat : Value → Nat
  | .int _ x => x.toNat
  | _ => 0
def massW (b : Nat) (w : World) : Nat := match w.heap[b]? with
  | some (.cells cs _ _) => (cs.toList.map valNat).sum
  | _ => 0
theorem mass_tab {w : World} {B b t : Nat} {F : List Nat} (h : TabAt w B b t F) : massW b w = F.sum := by
  unfold massW
  rw [h.c]
  simp only
  unfold us
  rw [List.map_map]
  congr 1
  conv => rhs; rw [← List.map_id F]
  exact List.map_congr_left fun x _ => by simp [valNat]
theorem sub_le {a b : Nat} (h : Sub a b) : a ≤ b := by
  have e : b ||| a = b := sub_or_self h
  rw [← e, Nat.or_comm]; exact Nat.left_le_or
theorem sum_le : ∀ {F G : List Nat}, F.length = G.length → SubF F G → F.sum ≤ G.sum
  | [], [], _, _ => Nat.le_refl _
  | a :: F, b :: G, hl, h => by
    have h0 := sub_le (h 0)
    have h1 := sum_le (F := F) (G := G) (by simpa using hl) (fun i => by have := h (i + 1); simpa using this)
    simp at h0
    simp only [List.sum_cons]; omega
theorem sum_lt : ∀ {F G : List Nat}, F.length = G.length → SubF F G → F ≠ G → F.sum < G.sum
  | [], [], _, _, h => absurd rfl h
  | a :: F, b :: G, hl, h, hne => by
    have h0 := sub_le (h 0)
    have hs : SubF F G := fun i => by have := h (i + 1); simpa using this
    have hl' : F.length = G.length := by simpa using hl
    have h1 := sum_le hl' hs
    simp at h0
    simp only [List.sum_cons]
    by_cases e : F = G
    · have : a ≠ b := fun e2 => hne (by rw [e, e2])
      omega
    · have := sum_lt hl' hs e
      omega
theorem sum_top : ∀ {F : List Nat}, (∀ x ∈ F, x < 18446744073709551616) → F.sum ≤ F.length * 18446744073709551616
  | [], _ => by simp
  | a :: F, h => by
    have h0 := h a List.mem_cons_self
    have h1 := sum_top (F := F) (fun x hx => h x (List.mem_cons_of_mem _ hx))
    simp only [List.sum_cons, List.length_cons]; omega
theorem low_all {t : Nat} (ht : t ≤ 63) {F : List Nat} (h : LowF t F) : ∀ x ∈ F, x < 18446744073709551616 := fun x hx => by
  obtain ⟨i, hi⟩ := List.mem_iff_getElem?.1 hx
  have := low_lt (h i) ht
  rwa [List.getD_eq_getElem?_getD, hi] at this

theorem two_alloc' (w : World) (o0 o1 : Obj) : Below w.heap.size w ((w.alloc o0).alloc o1) ∧ ((w.alloc o0).alloc o1).heap.size = w.heap.size + 2 ∧ ((w.alloc o0).alloc o1).heap[w.heap.size]? = some o0 ∧ ((w.alloc o0).alloc o1).heap[w.heap.size + 1]? = some o1 := by
  refine ⟨((Below.refl _ _).alloc (Nat.le_refl _) _).alloc (by simp) _, by simp, ?_, ?_⟩
  · rw [Below.heap_alloc _ _ _ (by simp)]; exact heap_alloc_new w o0
  · have := heap_alloc_new (w.alloc o0) o1; simpa using this

/-- What New made, as it lies. -/
structure TableOf (g : Gr) (w : World) (B b : Nat) (F : List Nat) : Prop where
  at_ : TabAt w B b g.terms.length F
  gen : ∃ S m, SetIs S (Fru g) ∧ F = iterL (growF g.terms.length g.prods (trimF S g.prods 0)) (zerosF g.nons.length) m ∧ growF g.terms.length g.prods (trimF S g.prods 0) F = F
theorem TableOf.is {g : Gr} {w : World} {B b : Nat} {F : List Nat} (h : TableOf g w B b F) (hc : CheckG g) : FirstIs g F := by
  obtain ⟨S, m, h1, h2, h3⟩ := h.gen
  exact first_is hc h1 h2 h3
theorem TableOf.below {g : Gr} {w w' : World} {B b : Nat} {F : List Nat} (h : TableOf g w B b F) (hb : Below w.heap.size w w') : TableOf g w' B b F := ⟨h.at_.below hb, h.gen⟩
/-- How New ends. -/
def NewEnd (B0 : Nat) (g : Gr) (e : Ending) (w' : World) : Prop :=
  (Fru g 100 ∧ ∃ B b F, e = .returned (.tuple #[.pointer (some ⟨B, 0, none⟩), .int .i64 0]) ∧ TableOf g w' B b F ∧ B0 ≤ B ∧ B0 ≤ b) ∨ (¬ Fru g 100 ∧ e = .returned (.tuple #[.pointer none, .int .i64 6]))

theorem us_zeros (n : Nat) : (us (zerosF n)).toArray = Array.replicate n (.int .u64 0) := by
  unfold us zerosF
  rw [List.map_replicate]
  simp

theorem infoSet : (Tryd.prog.info? 127).map (fun i => (i.zero, i.size, i.bytes)) = some (some (.int .u64 0), 1, 8) := by kernel_rfl
theorem make_sets (n : Nat) (hn : n ≤ 1000) (w : World) : (Instr.makeSlice 125 (.int .i64 n) (.int .i64 n)).run Tryd.prog w = .ok (.slice (some ⟨w.heap.size, 0, none⟩) n n) (w.alloc (.cells (us (zerosF n)).toArray 127)) := by
  obtain ⟨i, hi, hz, h1, h2⟩ := info_of infoSet
  have hr := run_make (P := Tryd.prog) w 125 127 i (.int .u64 0) Tryd.underlying125 hi hz .i64 .i64 n n (by omega) (Int.le_refl _) (by rw [h2]; omega) (by omega)
  have e : madeCells (Value.cells (.int .u64 0)) (n * 1) = (us (zerosF n)).toArray := by
    rw [us_zeros, Nat.mul_one]
    apply Array.ext'
    rw [show Value.cells (.int .u64 0) = #[.int .u64 0] from rfl, toList_madeCells_one]; simp
  rw [Int.toNat_natCast, h1, e] at hr
  exact hr

set_option maxRecDepth 100000 in
set_option maxHeartbeats 8000000 in
theorem fnew_any (v : Value) (g : Gr) (w : World) (hg : GramAt w v g) (hck : CheckG g) :
    Calls Tryd.prog 72 #[v] w fun e w' => NewEnd w.heap.size g e w' ∧ Below w.heap.size w w' := by
  have hg0 := hg
  obtain ⟨a1, a2, a3, c1, c2, c3, ls, rfl, hp, k1, k2, k3, k4, k5, k6, k7⟩ := hg
  have hS : Below w.heap.size w (w.alloc (.cells #[.slice a1 g.terms.length c1, .slice a2 g.nons.length c2, .slice a3 ls.length c3] 29)) := (Below.refl _ _).alloc (Nat.le_refl _) _
  have hT := trim_one _ g _ (hg0.below hS) hck
  have hQ := heap_alloc_new w (.cells #[.slice a1 g.terms.length c1, .slice a2 g.nons.length c2, .slice a3 ls.length c3] 29)
  have x0 := (blk_cell (i := 0) (u := .slice a1 g.terms.length c1) hQ rfl).1
  have x1 := (blk_cell (i := 1) (u := .slice a2 g.nons.length c2) hQ rfl).1
  have x2 := (blk_cell (i := 2) (u := .slice a3 ls.length c3) hQ rfl).1
  have H3 := Lib.hid (k3.below hS)
  have H4 := Lib.hid (fun p hp => (k4 p hp).below hS)
  have HQ := Lib.hid hQ
  have HP := Lib.hid hp
  have HS := Lib.hid hS
  have HT := Lib.hid hT
  have HCK := Lib.hid hck
  have ht8 := hck.t8
  have hn8 := hck.n8
  have hn1 := hck.n1
  have hz1 : w.heap.size < (w.alloc (.cells #[.slice a1 g.terms.length c1, .slice a2 g.nons.length c2, .slice a3 ls.length c3] 29)).heap.size := heap_lt hQ
  clear hg0 hp k1 k2 k3 k4 hS hT hQ hck
  go_enter Tryd.func72, Tryd.ntmps72
  go_upto_region 1 with fail
  generalize w.alloc (.cells #[.slice a1 g.terms.length c1, .slice a2 g.nons.length c2, .slice a3 ls.length c3] 29) = S at *
  generalize hB0 : w.heap.size = B0 at *
  have HB0 := Lib.hid hB0
  clear hB0
  have HX := Lib.hid fun (W : World) (hW : Below S.heap.size S W) => (⟨(hW.block B0 hz1).trans HQ.out, Nat.lt_of_lt_of_le hz1 hW.size⟩ : W.heap[B0]? = some (.cells #[.slice a1 g.terms.length c1, .slice a2 g.nons.length c2, .slice a3 ls.length c3] 29) ∧ B0 < W.heap.size)
  clear HQ
  go_upto_region 2 with (go_at_call 71; refine HT.out.mono ?_; rintro e w2 ⟨hb2, SF, a, c, l, er, rfl, hSF, hTO, hlc, hll2⟩)
  obtain ⟨hq2, hl2⟩ := HX.out _ hb2
  have HBW := Lib.hid (HS.out.trans (hb2.mono (by rw [← HB0.out]; exact HS.out.size)))
  have HLC := Lib.hid hlc
  have HSF := Lib.hid hSF
  have HQ2 := Lib.hid hq2
  have H32 := Lib.hid (H3.out.below hb2)
  have H42 := Lib.hid (fun p hp => (H4.out p hp).below hb2)
  clear hlc hSF hb2 H3 H4 HT HX x0 x1 x2 hz1
  rcases hTO with ⟨h1, rfl, rfl⟩ | ⟨h1, rfl, rfl⟩
  · have hrange := fun k (hk : k ∈ trimF SF g.prods 0) => (trimF_mem SF g.prods 0 k).1 hk
    have HRA := Lib.hid hrange
    have H1 := Lib.hid h1
    have d0 := (blk_cell (i := 0) (u := .slice a1 g.terms.length c1) hq2 rfl).1
    have d1 := (blk_cell (i := 1) (u := .slice a2 g.nons.length c2) hq2 rfl).1
    have d2 := (blk_cell (i := 2) (u := .slice a3 ls.length c3) hq2 rfl).1
    have hpl : ls.length = g.prods.length := by rw [← HP.out, List.length_map]
    have hp24 := HCK.out.p24
    have hll : ls.length ≤ 24 := by omega
    clear hrange h1 hq2 hpl hp24
    generalize hTT : trimF SF g.prods 0 = T at *
    have HTT := Lib.hid hTT
    clear hTT
    go_upto_region 4 with fail
    have hmk := fun W => make_sets g.nons.length (by omega) W
    go_region
    all_goals
      go_wp2
      clear hmk
      obtain ⟨t2, tz, t0, t1⟩ := two_alloc' w2 (.cells (us (zerosF g.nons.length)).toArray 127) (.cells #[.int .i64 g.terms.length, .slice (some ⟨w2.heap.size, 0, none⟩) g.nons.length g.nons.length] 151)
      have hzl : (zerosF g.nons.length).length = g.nons.length := by simp [zerosF]
      have HTA0 : Hid (TabAt (((w2.alloc (.cells (us (zerosF g.nons.length)).toArray 127)).alloc (.cells #[.int .i64 g.terms.length, .slice (some ⟨w2.heap.size, 0, none⟩) g.nons.length g.nons.length] 151)).drew) (w2.heap.size + 1) w2.heap.size g.terms.length (zerosF g.nons.length)) := Lib.hid ⟨by rw [hzl]; exact t1, t0, by omega⟩
      have HB20 : Hid (Below w2.heap.size w2 (((w2.alloc (.cells (us (zerosF g.nons.length)).toArray 127)).alloc (.cells #[.int .i64 g.terms.length, .slice (some ⟨w2.heap.size, 0, none⟩) g.nons.length g.nons.length] 151)).drew)) := Lib.hid t2.drew
      clear t2 tz t0 t1
      generalize (((w2.alloc (.cells (us (zerosF g.nons.length)).toArray 127)).alloc (.cells #[.int .i64 g.terms.length, .slice (some ⟨w2.heap.size, 0, none⟩) g.nons.length g.nons.length] 151)).drew) = S0 at *
      have hK : ∀ m, (iterL (growF g.terms.length g.prods T) (zerosF g.nons.length) m).length = g.nons.length := fun m => by rw [iter_len, hzl]
      have hLow : ∀ m, LowF g.terms.length (iterL (growF g.terms.length g.prods T) (zerosF g.nons.length) m) := fun m => low_iter (by omega) (fun i => by rw [zeros_get]; exact low_zero _) m
      have HK := Lib.hid hK
      have HLow := Lib.hid hLow
      clear hK hLow hzl
      go_loopw [28] (fun _ wr => ∃ m, Hid (TabAt wr (w2.heap.size + 1) w2.heap.size g.terms.length (iterL (growF g.terms.length g.prods T) (zerosF g.nons.length) m)) ∧ Hid (Below w2.heap.size w2 wr)) (fun _ wr => g.nons.length * 18446744073709551616 - massW w2.heap.size wr)
      case atStart => exact ⟨0, HTA0, HB20⟩
      case round =>
        obtain ⟨m, HTA, HBE⟩ := hrel
        have hq := (HBE.out.block B0 hl2).trans HQ2.out
        have e2 := (blk_cell (i := 2) (u := .slice a3 ls.length c3) hq rfl).1
        have e3 := Nat.lt_of_lt_of_le hl2 HBE.out.size
        have hms := mass_tab HTA.out
        have HFK := Lib.hid (HK.out m)
        have hFL := HLow.out m
        have hext := grow_ext g.terms.length g.prods T (iterL (growF g.terms.length g.prods T) (zerosF g.nons.length) m)
        have hgl := grow_len g.terms.length g.prods T (iterL (growF g.terms.length g.prods T) (zerosF g.nons.length) m)
        have HGEN : Hid (∃ m', iterL (growF g.terms.length g.prods T) (zerosF g.nons.length) m = iterL (growF g.terms.length g.prods T) (zerosF g.nons.length) m') := Lib.hid ⟨m, rfl⟩
        have HNX : Hid (growF g.terms.length g.prods T (iterL (growF g.terms.length g.prods T) (zerosF g.nons.length) m) = iterL (growF g.terms.length g.prods T) (zerosF g.nons.length) (m + 1)) := Lib.hid rfl
        have hLN := HLow.out (m + 1)
        have hKN := HK.out (m + 1)
        generalize iterL (growF g.terms.length g.prods T) (zerosF g.nons.length) (m + 1) = F' at *
        generalize hFm : iterL (growF g.terms.length g.prods T) (zerosF g.nons.length) m = F at *
        have hn24 : F.length = g.nons.length := HFK.out
        have HFM := Lib.hid hFm
        clear hFm
        have HGR := Lib.hid (fgrow_any (w2.heap.size + 1) w2.heap.size g.terms.length F a3 c3 ls a c T w2 wr HBE.out (by omega) (Nat.le_refl _) HTA.out H32.out H42.out HLC.out (fun k hk => by
            obtain ⟨j, p, hj, _, rfl⟩ := HRA.out k hk
            have := (List.getElem?_eq_some_iff.1 hj).1
            have h2 : ls.length = g.prods.length := by rw [← HP.out, List.length_map]
            omega) (fun p hp => by
            have hpp : p.plain ∈ g.prods := by rw [← HP.out]; exact List.mem_map_of_mem hp
            have h1 := (HCK.out.pv _ hpp)
            have h2 := (nums_of_check HCK.out) _ hpp
            refine ⟨by rw [hn24]; exact h1.1, fun s hs => by have := h2.2 s hs; omega, by have := h1.2.1; show p.plain.2.length ≤ _; omega⟩) hFL (by omega) (by omega) hll2 (by omega))
        rw [HP.out] at HGR
        have hs1 := sum_top (low_all (by omega) hLN)
        rw [hKN] at hs1
        have HMS := Lib.hid hms
        have HHL := Lib.hid hs1
        clear hq hs1 hms
        by_cases hfx : growF g.terms.length g.prods T F = F
        · rw [decide_eq_false (show ¬ (growF g.terms.length g.prods T F ≠ F) from fun h => h hfx)] at HGR
          have HFX := Lib.hid hfx
          clear hfx hext hgl hLN hKN hFL
          go_wp2_with (go_at_call 97; refine HGR.out.mono ?_; rintro e w4 ⟨rfl, hT4, hb4⟩)
          have HT4 := Lib.hid hT4
          go_ret2
          refine ⟨.inl ⟨?_, w2.heap.size + 1, w2.heap.size, F, rfl, ⟨by have := HT4.out; rwa [HFX.out] at this, SF, m, HSF.out, ?_, ?_⟩, ?_, ?_⟩, ?_⟩
          · have := (HSF.out.has 100).1 (by rw [show (100 : Int) - 100 = 0 by omega]; exact H1.out)
            exact this.2.2
          · rw [HTT.out]; exact HFM.out.symm
          · rw [HTT.out]; exact HFX.out
          · rw [HB0.out]; omega
          · rw [HB0.out]; omega
          · have hb5 := HBW.out.trans (hb4.mono (Nat.le_of_lt hl2)); rw [HB0.out]; exact hb5
        · have hlt := sum_lt hgl.symm hext (fun h => hfx h.symm)
          rw [decide_eq_true (show (growF g.terms.length g.prods T F ≠ F) from hfx)] at HGR
          have HLT := Lib.hid hlt
          clear hfx hext hgl hlt hLN hKN hFL
          go_wp2_with (go_at_call 97; refine HGR.out.mono ?_; rintro e w4 ⟨rfl, hT4, hb4⟩)
          have hm4 := mass_tab hT4
          have HT4 := Lib.hid hT4
          refine ⟨⟨m + 1, Lib.hid (by have h : iterL (growF g.terms.length g.prods T) (zerosF g.nons.length) (m + 1) = growF g.terms.length g.prods T F := congrArg _ HFM.out; rw [h]; exact HT4.out), Lib.hid hb4⟩, ?_⟩
          have h1 := HLT.out
          have h2 := HMS.out
          have h3 := HHL.out
          rw [← HNX.out] at h3
          rw [hm4, h2]
          omega
  · have H1 := Lib.hid h1
    clear h1
    go_wp2
    go_ret2
    refine ⟨.inr ⟨fun h => ?_, rfl⟩, by rw [HB0.out]; exact HBW.out⟩
    have := ((HSF.out.has 100).2 ⟨by omega, by omega, h⟩)
    rw [show (100 : Int) - 100 = 0 by omega, H1.out] at this
    cases this

end Go.Proofs.YtejjdfmobiegdaaDoor
