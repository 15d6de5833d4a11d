/- item: a closing in memory; put: walked. item: put: walked. item: take: walked. -/
import Derived.Test.YtejjdfmobiegdaaDoorItA
import Derived.Deep.AppendLies
import Derived.Deep.RegionLaw
import Derived.Deep.QuietTactic
import Derived.BigQuiet

set_option linter.unusedVariables false
namespace Go.Proofs.YtejjdfmobiegdaaDoor
open Go.RowKit
open Doc

theorem infoIt : (Tryd.prog.info? 53).map (fun i => (i.zero, i.size, i.bytes)) = some (some (.agg #[.int .i64 0, .int .i64 0, .int .i64 0]), 3, 24) := by kernel_rfl
def u64s (l : List Nat) : List Value := l.map fun (x : Nat) => Value.int .u64 (x : Int)
/-- A closing, in plain terms: of each production and dot what is ahead; of each nonterminal what was begun; those that are open. -/
structure CloR where
  all : List Nat
  begun : List Nat
  oa : Option Addr
  oc : Nat
  opn : List It
def cloL (X : CloR) : List Value := u64s X.all ++ u64s X.begun ++ [.slice X.oa X.opn.length X.oc]
structure CloAt (w : World) (B base : Nat) (X : CloR) : Prop where
  q : w.heap[B]? = some (.cells (cloL X).toArray 157)
  own : w.ownsRow base 53 3 (.slice X.oa X.opn.length X.oc) X.opn.length (itsV X.opn)
  l175 : X.all.length = 175
  l8 : X.begun.length = 8
  lt : ∀ x ∈ X.all, x < 18446744073709551616
  lb : ∀ x ∈ X.begun, x < 18446744073709551616
theorem clo_all {X : CloR} (h : X.all.length = 175) {j : Nat} (hj : j < 175) : (cloL X)[j]? = some (.int .u64 ((X.all.getD j 0 : Nat) : Int)) := by
  unfold cloL u64s
  rw [List.append_assoc, List.getElem?_append_left (by simp [h]; omega), List.getElem?_map, List.getElem?_eq_getElem (by omega), List.getD_eq_getElem?_getD, List.getElem?_eq_getElem (by omega)]
  rfl
theorem clo_begun {X : CloR} (h : X.all.length = 175) (h8 : X.begun.length = 8) {j : Nat} (hj : j < 8) : (cloL X)[175 + j]? = some (.int .u64 ((X.begun.getD j 0 : Nat) : Int)) := by
  unfold cloL u64s
  rw [List.append_assoc, List.getElem?_append_right (by simp [h]), List.length_map, h, Nat.add_sub_cancel_left, List.getElem?_append_left (by simp [h8]; omega), List.getElem?_map, List.getElem?_eq_getElem (by omega), List.getD_eq_getElem?_getD, List.getElem?_eq_getElem (by omega)]
  rfl
theorem clo_open {X : CloR} (h : X.all.length = 175) (h8 : X.begun.length = 8) : (cloL X)[183]? = some (.slice X.oa X.opn.length X.oc) := by
  unfold cloL u64s
  rw [List.append_assoc, List.getElem?_append_right (by simp [h]), List.length_map, h, List.getElem?_append_right (by simp [h8]), List.length_map, h8]
  rfl
theorem clo_len {X : CloR} (h : X.all.length = 175) (h8 : X.begun.length = 8) : (cloL X).length = 184 := by simp [cloL, u64s, h, h8]
theorem u64s_set (F : List Nat) (i v : Nat) : u64s (F.set i v) = (u64s F).set i (.int .u64 (v : Int)) := by unfold u64s; rw [List.map_set]
theorem clo_set_all {X : CloR} (h : X.all.length = 175) {j : Nat} (hj : j < 175) (v : Nat) : cloL { X with all := X.all.set j v } = (cloL X).set j (.int .u64 (v : Int)) := by
  unfold cloL
  simp only
  rw [u64s_set, List.append_assoc, List.append_assoc, List.set_append_left _ _ (by simp [u64s, h]; omega)]
theorem clo_set_begun {X : CloR} (h : X.all.length = 175) (h8 : X.begun.length = 8) {j : Nat} (hj : j < 8) (v : Nat) : cloL { X with begun := X.begun.set j v } = (cloL X).set (175 + j) (.int .u64 (v : Int)) := by
  unfold cloL
  simp only
  rw [u64s_set, List.append_assoc, List.append_assoc, List.set_append_right _ _ (by simp [u64s, h]), List.set_append_left _ _ (by simp [u64s, h, h8]; omega)]
  simp [u64s, h]
theorem clo_set_open {X : CloR} (h : X.all.length = 175) (h8 : X.begun.length = 8) (oa : Option Addr) (oc : Nat) (l : List It) : cloL { X with oa := oa, oc := oc, opn := l } = (cloL X).set 183 (.slice oa l.length oc) := by
  unfold cloL
  simp only
  rw [List.append_assoc, List.append_assoc, List.set_append_right _ _ (by simp [u64s, h]), List.set_append_right _ _ (by simp [u64s, h, h8])]
  simp [u64s, h, h8]
theorem its_len (l : List It) : (itsV l).length = l.length * 3 := by
  induction l with
  | nil => rfl
  | cons x l ih => simp only [itsV, List.flatMap_cons, List.length_append, List.length_cons] at ih ⊢; rw [show (itC x).length = 3 from rfl, ih]; omega
theorem its_app (l m : List It) : itsV (l ++ m) = itsV l ++ itsV m := by simp [itsV]
/-- An item is taken in. -/
def putC (X : CloR) (x : It) (oa : Option Addr) (oc : Nat) : CloR := if shas (X.all.getD ((x.1 + 1).toNat * 7 + x.2.1.toNat) 0) x.2.2 = true then X else { all := X.all.set ((x.1 + 1).toNat * 7 + x.2.1.toNat) (X.all.getD ((x.1 + 1).toNat * 7 + x.2.1.toNat) 0 ||| sdig x.2.2), begun := X.begun, oa := oa, oc := oc, opn := X.opn ++ [x] }
theorem clo_block {w : World} {B base : Nat} {X : CloR} (h : CloAt w B base X) {x : Nat} (hx : (Value.slice X.oa X.opn.length X.oc).ownBlock = some x) : x ≠ B := by
  intro e
  obtain ⟨_, _, c, hc⟩ := own_block h.own hx
  rw [e, h.q] at hc
  injection hc with hc
  injection hc with _ hc _
  exact absurd hc (by decide)
end Go.Proofs.YtejjdfmobiegdaaDoor

set_option linter.unusedVariables false
namespace Go.Proofs.YtejjdfmobiegdaaDoor
open Go.RowKit
open Doc

theorem CloAt.below {w w' : World} {B base : Nat} {X : CloR} (h : CloAt w B base X) (hb : Below w.heap.size w w') : CloAt w' B base X :=
  ⟨(hb.block _ (heap_lt h.q)).trans h.q, own_same h.own fun k _ hk => hb.block k hk, h.l175, h.l8, h.lt, h.lb⟩
theorem CloAt.cell {w : World} {B base : Nat} {X : CloR} (h : CloAt w B base X) {j : Nat} (hj : j < 175) : w.cell? ⟨B, j, none⟩ = some (.int .u64 ((X.all.getD j 0 : Nat) : Int)) ∧ w.frozen? ⟨B, j, none⟩ = false :=
  blk_cell (w := w) (i := j) h.q (by rw [List.getElem?_toArray]; exact clo_all h.l175 hj)
theorem CloAt.opn {w : World} {B base : Nat} {X : CloR} (h : CloAt w B base X) : w.cell? ⟨B, 183, none⟩ = some (.slice X.oa X.opn.length X.oc) ∧ w.frozen? ⟨B, 183, none⟩ = false :=
  blk_cell (w := w) (i := 183) h.q (by rw [List.getElem?_toArray]; exact clo_open h.l175 h.l8)
theorem CloAt.setAll {w : World} {B base : Nat} {X : CloR} (h : CloAt w B base X) {j v : Nat} (hj : j < 175) (hv : v < 18446744073709551616) : CloAt (w.setCell ⟨B, j, none⟩ (.int .u64 (v : Int))) B base { X with all := X.all.set j v } := by
  refine ⟨?_, own_same h.own fun k hk _ => Below.heap_setCell _ _ _ _ (clo_block h hk), by show (X.all.set j v).length = 175; rw [List.length_set]; exact h.l175, h.l8, set_lt h.lt hv, h.lb⟩
  rw [heap_set w B j _ _ _ h.q (by rw [List.size_toArray, clo_len h.l175 h.l8]; omega)]
  simp only [Array.set!_eq_setIfInBounds]
  rw [List.setIfInBounds_toArray]
  exact congrArg (fun l => some (Obj.cells (List.toArray l) 157)) (clo_set_all h.l175 hj v).symm
/-- One more that is open. -/
theorem CloAt.push {w w1 : World} {B base : Nat} {X : CloR} (h : CloAt w B base X) (hg : w.grownBy w1 (Value.slice X.oa X.opn.length X.oc).ownBlock) {oa : Option Addr} {oc : Nat} {x : It} (ho : w1.ownsRow base 53 3 (.slice oa (X.opn.length + 1) oc) (X.opn.length + 1) (itsV (X.opn ++ [x]))) :
    w1.heap[B]? = some (.cells (cloL X).toArray 157) ∧ CloAt (w1.setCell ⟨B, 183, none⟩ (.slice oa (X.opn.length + 1) oc)) B base { X with oa := oa, oc := oc, opn := X.opn ++ [x] } := by
  have hq : w1.heap[B]? = some (.cells (cloL X).toArray 157) := (hg.block B (heap_lt h.q) fun e => clo_block h e.symm rfl).trans h.q
  refine ⟨hq, ?_, ?_, h.l175, h.l8, h.lt, h.lb⟩
  · rw [heap_set w1 B 183 _ _ _ hq (by rw [List.size_toArray, clo_len h.l175 h.l8]; omega)]
    simp only [Array.set!_eq_setIfInBounds]
    rw [List.setIfInBounds_toArray]
    have e := clo_set_open h.l175 h.l8 oa oc (X.opn ++ [x])
    rw [List.length_append, List.length_singleton] at e
    exact congrArg (fun l => some (Obj.cells (List.toArray l) 157)) e.symm
  · show World.ownsRow _ base _ 3 (.slice oa (X.opn ++ [x]).length oc) (X.opn ++ [x]).length _
    rw [List.length_append, List.length_singleton]
    refine own_same ho fun k hk hk2 => Below.heap_setCell _ _ _ _ fun e => ?_
    have e : k = B := e
    obtain ⟨_, _, c, hc⟩ := own_block ho hk
    rw [e, hq] at hc
    injection hc with hc
    injection hc with _ hc _
    exact absurd hc (by decide)
theorem WTo.pushC {w S4 A w5 : World} {B : Nat} {la : Option Addr} {n c g5 m : Nat} {v : Value} (h : WTo w S4 la la (some ⟨B, 0, none⟩) []) (hA : Below S4.heap.size S4 A) (hg : A.grownBy w5 (Value.slice la n c).ownBlock) (hl : (Value.slice la n c).ownBlock = some g5 ∨ g5 = S4.heap.size + 1) : WTo w (w5.setCell ⟨B, m, none⟩ v) la (some ⟨g5, 0, none⟩) (some ⟨B, 0, none⟩) [] := by
  have h1 := h.size
  have h2 := hA.size
  have h3 := hg.size
  refine ⟨by simp [World.setCell]; omega, fun k hk h5 h6 => ?_, fun x hx => ?_, fun r hr => by cases hr⟩
  · refine (Below.heap_setCell w5 ⟨B, m, none⟩ v k (fun e => h6 ⟨B, 0, none⟩ rfl e.symm)).trans ((hg.block k (by omega) fun e => ?_).trans ((hA.block k (by omega)).trans (h.keep k hk h5 h6)))
    obtain ⟨y, hy, hyk⟩ := ownBlock_eq e.symm
    exact h5 y hy hyk
  · cases hx
    rcases hl with hl | hl
    · obtain ⟨y, hy, hyk⟩ := ownBlock_eq hl
      exact .inl ⟨y, hy, hyk⟩
    · right
      show w.heap.size ≤ g5
      omega
set_option maxRecDepth 100000 in
set_option maxHeartbeats 4000000 in
theorem iput_any (B base : Nat) (X : CloR) (p d : Nat) (a : Int) (w : World) (h : CloAt w B base X) (hb : base ≤ w.heap.size) (hp : p < 25) (hd : d < 7) (hl : X.opn.length ≤ 1000000) :
    Calls Tryd.prog 100 #[.pointer (some ⟨B, 0, none⟩), itV ((p : Int) - 1, (d : Int), a)] w fun e w' => e = .returned (.tuple #[]) ∧ ∃ oa oc, CloAt w' B base (putC X ((p : Int) - 1, (d : Int), a) oa oc) ∧ WTo w w' X.oa (putC X ((p : Int) - 1, (d : Int), a) oa oc).oa (some ⟨B, 0, none⟩) [] ∧ ∀ b0, b0 ≤ B → b0 ≤ base → b0 ≤ w.heap.size → Below b0 w w' := by
  unfold itV
  simp only
  have hS : Below w.heap.size w (w.alloc (.cells #[.int .i64 ((p : Int) - 1), .int .i64 d, .int .i64 a] 53)) := (Below.refl _ _).alloc (Nat.le_refl _) _
  have hQ := heap_alloc_new w (.cells #[.int .i64 ((p : Int) - 1), .int .i64 d, .int .i64 a] 53)
  have x0 := (blk_cell (i := 0) hQ rfl).1
  have x1 := (blk_cell (i := 1) hQ rfl).1
  have x2 := (blk_cell (i := 2) hQ rfl).1
  have l0 := heap_lt hQ
  have hj : p * 7 + d < 175 := by omega
  have HX := Lib.hid (h.below hS)
  have y0 := HX.out.cell hj
  have y1 := heap_lt HX.out.q
  have HS := Lib.hid hS
  have HQ := Lib.hid hQ
  have hsl : X.all.getD (p * 7 + d) 0 < 18446744073709551616 := getD_lt h.lt (by omega) _
  have HPUT := Lib.hid (show ∀ oa oc, putC X ((p : Int) - 1, (d : Int), a) oa oc = if shas (X.all.getD (p * 7 + d) 0) a = true then X else { all := X.all.set (p * 7 + d) (X.all.getD (p * 7 + d) 0 ||| sdig a), begun := X.begun, oa := oa, oc := oc, opn := X.opn ++ [((p : Int) - 1, (d : Int), a)] } from fun oa oc => by
    unfold putC
    simp only
    rw [show ((p : Int) - 1 + 1).toNat = p by omega, Int.toNat_natCast])
  have hwp : IntKind.i64.wrap ((p : Int) - 1 - -1) = (p : Int) := by rw [show (p : Int) - 1 - -1 = (p : Int) by omega]; exact IntWalk.i64_in _ (by omega)
  have hp' : (p : Int) < 25 := by omega
  have hd' : (d : Int) < 7 := by omega
  clear hS hQ
  go_enter Tryd.func100, Tryd.ntmps100
  go_upto_region 1 with fail
  generalize w.alloc (.cells #[.int .i64 ((p : Int) - 1), .int .i64 d, .int .i64 a] 53) = S at *
  generalize hBI : w.heap.size = BI at *
  have HBE := Lib.hid hBI
  clear hBI
  go_quiet (fail)
  have HS1 := Lib.hid (below_drews HS.out nq)
  have HX1 := Lib.hid (HX.out.below (below_drews (Below.refl _ _) nq))
  have HQ1 := Lib.hid (show (S.drewN nq).heap[BI]? = _ from HQ.out)
  clear x0 x1 x2 y0 y1 l0 HS HX HQ
  generalize S.drewN nq = S1 at *
  have x0 := (blk_cell (i := 0) HQ1.out rfl).1
  have x1 := (blk_cell (i := 1) HQ1.out rfl).1
  have x2 := (blk_cell (i := 2) HQ1.out rfl).1
  obtain ⟨y0, y2⟩ := HX1.out.cell hj
  have l0 := heap_lt HQ1.out
  have y1 := heap_lt HX1.out.q
  have HH := Lib.hid fun n : Nat => ((has_any (X.all.getD (p * 7 + d) 0) a hsl (S1.drewN n)).mono fun e w' ⟨he, hw⟩ => ⟨he, n, hw⟩ : Calls Tryd.prog 94 #[.int .u64 (X.all.getD (p * 7 + d) 0 : Nat), .int .i64 a] (S1.drewN n) fun e w' => e = .returned (.bool (shas (X.all.getD (p * 7 + d) 0) a)) ∧ ∃ m, w' = S1.drewN m)
  have HWI := Lib.hid fun W => with_any (X.all.getD (p * 7 + d) 0) a hsl W
  have HSL := Lib.hid hsl
  have HSD := Lib.hid (or_lt _ _ hsl (dig_lt a))
  cases hs : shas (X.all.getD (p * 7 + d) 0) a with
  | true =>
    have HP := Lib.hid (show ∀ oa oc, putC X ((p : Int) - 1, (d : Int), a) oa oc = X from fun oa oc => by rw [HPUT.out, if_pos hs])
    rw [hs] at HH
    clear hs hsl HPUT
    generalize X.all.getD (p * 7 + d) 0 = sv at *
    go_wp2_with fail
    go_quiet ((go_at_call 94; exact HH.out _))
    go_wp2
    go_end0
    refine ⟨rfl, X.oa, X.oc, by rw [HP.out]; exact HX1.out.below (below_drews (Below.refl _ _) _), by rw [HP.out]; exact WTo.later _ _ _ _ (by rw [HBE.out]; exact below_drews HS1.out _), fun b0 _ _ h3 => (below_drews HS1.out _).mono (by omega)⟩
  | false =>
    have HP := Lib.hid (show ∀ oa oc, putC X ((p : Int) - 1, (d : Int), a) oa oc = { all := X.all.set (p * 7 + d) (X.all.getD (p * 7 + d) 0 ||| sdig a), begun := X.begun, oa := oa, oc := oc, opn := X.opn ++ [((p : Int) - 1, (d : Int), a)] } from fun oa oc => by rw [HPUT.out, if_neg (by rw [hs]; decide)])
    rw [hs] at HH
    clear hs hsl HPUT
    generalize hsv : X.all.getD (p * 7 + d) 0 = sv at *
    have HSV := Lib.hid hsv
    clear hsv
    go_wp2_with fail
    go_quiet ((go_at_call 94; exact HH.out _))
    have HS2 := Lib.hid (below_drews HS1.out nq)
    have HX2 := Lib.hid (HX1.out.below (below_drews (Below.refl _ _) nq))
    have HQ2 := Lib.hid (show (S1.drewN nq).heap[BI]? = _ from HQ1.out)
    clear x0 x1 x2 y0 y1 y2 l0 HS1 HX1 HQ1 HH
    generalize S1.drewN nq = S2 at *
    have x2 := (blk_cell (i := 2) HQ2.out rfl).1
    obtain ⟨y0, y2⟩ := HX2.out.cell hj
    rw [HSV.out] at y0
    have l0 := heap_lt HQ2.out
    have y1 := heap_lt HX2.out.q
    have HX3 := Lib.hid (HX2.out.setAll (v := sv ||| sdig a) hj HSD.out)
    have HB3 := Lib.hid fun b0 (h1 : b0 ≤ B) (h2 : b0 ≤ BI) => ((HS2.out.mono h2).setCell (p := ⟨B, p * 7 + d, none⟩) h1 (.int .u64 ((sv ||| sdig a : Nat) : Int)) : Below b0 w (S2.setCell ⟨B, p * 7 + d, none⟩ (.int .u64 ((sv ||| sdig a : Nat) : Int))))
    have HNE := Lib.hid (show BI ≠ B by
      intro e
      have h1 := HQ2.out
      rw [e, HX2.out.q] at h1
      injection h1 with h1
      injection h1 with _ h1 _
      exact absurd h1 (by decide))
    generalize sv ||| sdig a = nv at *
    go_upto_region 3 with fail
    go_region_with (go_at_call 75; refine (HWI.out _).mono ?_; rintro e w5 ⟨rfl, hw5⟩; rw [hw5]; clear hw5)
    all_goals
      have HX4 := Lib.hid (HX3.out.below (Below.refl _ _).drew)
      have HB4 := Lib.hid fun b0 h1 h2 => (HB3.out b0 h1 h2).drew
      have HQ4 := Lib.hid (show (S2.setCell ⟨B, p * 7 + d, none⟩ (.int .u64 (nv : Int))).drew.heap[BI]? = _ from (Below.heap_setCell _ _ _ _ HNE.out).trans HQ2.out)
      have HW4 := Lib.hid (show WTo w (S2.setCell ⟨B, p * 7 + d, none⟩ (.int .u64 (nv : Int))).drew X.oa X.oa (some ⟨B, 0, none⟩) [] from ⟨(HB4.out 0 (Nat.zero_le _) (Nat.zero_le _)).size, fun k hk _ h4 => (Below.heap_setCell S2 ⟨B, p * 7 + d, none⟩ (.int .u64 (nv : Int)) k (fun e => h4 ⟨B, 0, none⟩ rfl e.symm)).trans (HS2.out.block k (by rw [HBE.out] at hk; exact hk)), fun x hx => .inl ⟨x, hx, rfl⟩, fun r hr => by cases hr⟩)
      clear x2 y0 y2 l0 y1 HX3 HB3
      generalize (S2.setCell ⟨B, p * 7 + d, none⟩ (.int .u64 (nv : Int))).drew = S4 at *
      have x0 := (blk_cell (i := 0) HQ4.out rfl).1
      have x1 := (blk_cell (i := 1) HQ4.out rfl).1
      have x2 := (blk_cell (i := 2) HQ4.out rfl).1
      have l0 := heap_lt HQ4.out
      obtain ⟨z0, z1⟩ := HX4.out.opn
      have z2 := heap_lt HX4.out.q
      have HXA := Lib.hid (HX4.out.below ((Below.refl _ _).alloc (Nat.le_refl _) (.cells #[.int .i64 ((p : Int) - 1), .int .i64 d, .int .i64 a] 53)).drew)
      obtain ⟨i1, hi1, hy0, hy1, hy2⟩ := info_of infoIt
      have hbz : base ≤ S4.heap.size := by have := HW4.out.size; rw [HBE.out] at this; omega
      go_upto_region 4 with fail
      go_region_law (refine step_append_lies _ (by rfl) _ _ _ (by rfl) base 53 i1 _ 3 24 Tryd.underlying54 hi1 hy0 hy1 hy2 rfl (by omega) _ X.opn.length (itsV X.opn) (by rfl) HXA.out.own ⟨S4.heap.size, 0, none⟩ 1 1 [.int .i64 ((p : Int) - 1), .int .i64 d, .int .i64 a] (by rfl) (by rfl) (World.news_of_block (cs := #[.int .i64 ((p : Int) - 1), .int .i64 d, .int .i64 a]) (t := 53) (fr := (0, 0)) (heap_alloc_new S4.drew _)) (by simp [Value.oneCell']) (by omega) (by unfold maxLen; omega) (by omega) (by simp; omega) (S4.heap.size + 1) (by simp) ?_; intro g5 cap5 w5 hown5 hgrow5 hat5 hlt5; have hpush := HXA.out.push hgrow5 (x := ((p : Int) - 1, (d : Int), a)) (by rw [its_app]; exact hown5); have HP5 := Lib.hid hpush.2; have v1 := (blk_cell (i := 183) hpush.1 (by rw [List.getElem?_toArray]; exact clo_open HXA.out.l175 HXA.out.l8)).1; have v2 := (blk_cell (i := 183) hpush.1 (by rw [List.getElem?_toArray]; exact clo_open HXA.out.l175 HXA.out.l8)).2; have v3 := heap_lt hpush.1; have HO5 := Lib.hid hown5; have HG5 := Lib.hid hgrow5; have HA5 := Lib.hid hat5; clear hpush hown5 hgrow5 hat5)
      all_goals
        go_wp2
        go_end0
        refine ⟨rfl, some ⟨g5, 0, none⟩, cap5, by rw [HP.out]; exact HP5.out, by rw [HP.out]; exact HW4.out.pushC ((Below.refl _ _).alloc (Nat.le_refl _) _).drew HG5.out HA5.out, fun b0 h1 h2 h3 => ?_⟩
        exact (((HB4.out b0 h1 (by omega)).alloc (by omega) _).drew.grown HG5.out (by simp; omega) fun k hk => Nat.le_trans h2 (own_block HXA.out.own hk).1).setCell h1 _
end Go.Proofs.YtejjdfmobiegdaaDoor

set_option linter.unusedVariables false
namespace Go.Proofs.YtejjdfmobiegdaaDoor
open Go.RowKit
open Doc

theorem its_at : ∀ {l : List It} {k : Nat} {x : It}, l[k]? = some x → (itsV l)[k * 3]? = some (.int .i64 x.1) ∧ (itsV l)[k * 3 + 1]? = some (.int .i64 x.2.1) ∧ (itsV l)[k * 3 + 2]? = some (.int .i64 x.2.2)
  | [], k, x, h => by simp at h
  | y :: l, 0, x, h => by
    cases h
    exact ⟨rfl, rfl, rfl⟩
  | y :: l, k + 1, x, h => by
    have ih := its_at (l := l) (k := k) (x := x) (by simpa using h)
    have e : itsV (y :: l) = itC y ++ itsV l := rfl
    have h3 : (itC y).length = 3 := rfl
    refine ⟨?_, ?_, ?_⟩
    · rw [e, List.getElem?_append_right (by omega), h3, show (k + 1) * 3 - 3 = k * 3 by omega]; exact ih.1
    · rw [e, List.getElem?_append_right (by omega), h3, show (k + 1) * 3 + 1 - 3 = k * 3 + 1 by omega]; exact ih.2.1
    · rw [e, List.getElem?_append_right (by omega), h3, show (k + 1) * 3 + 2 - 3 = k * 3 + 2 by omega]; exact ih.2.2
/-- The last one is taken off. -/
theorem CloAt.pop {w : World} {B base : Nat} {X : CloR} {l : List It} {x : It} (h : CloAt w B base X) (hl : X.opn = l ++ [x]) : CloAt (w.setCell ⟨B, 183, none⟩ (.slice X.oa l.length X.oc)) B base { X with opn := l } := by
  refine ⟨?_, ?_, h.l175, h.l8, h.lt, h.lb⟩
  · rw [heap_set w B 183 _ _ _ h.q (by rw [List.size_toArray, clo_len h.l175 h.l8]; omega)]
    simp only [Array.set!_eq_setIfInBounds]
    rw [List.setIfInBounds_toArray]
    exact congrArg (fun l => some (Obj.cells (List.toArray l) 157)) (clo_set_open h.l175 h.l8 X.oa X.oc l).symm
  · have ho := h.own
    have hb := fun {x} => clo_block h (x := x)
    rw [hl, List.length_append, List.length_singleton] at ho
    rcases ho.2 with ⟨hn, hz⟩ | ⟨g, cap, cur, hv, hbg, hgc, hle, hmx, hcs, htk⟩
    · omega
    · injection hv with e1 e2 e3
      refine ⟨its_len l, .inr ⟨g, cap, cur, by show Value.slice X.oa l.length X.oc = _; rw [e1, e3], hbg, ?_, by show l.length ≤ cap; omega, hmx, hcs, ?_⟩⟩
      · rw [Below.heap_setCell _ _ _ _ (show g ≠ B from hb (by rw [e1]; rfl))]
        exact hgc
      · have e4 : cur.toList.take (l.length * 3) = (cur.toList.take ((l.length + 1) * 3)).take (l.length * 3) := by rw [List.take_take]; congr 1; omega
        show cur.toList.take (l.length * 3) = itsV l
        rw [e4, htk, its_app, show l.length * 3 = (itsV l).length from (its_len l).symm]
        exact List.take_left
theorem CloAt.far {w : World} {B base : Nat} {X : CloR} (h : CloAt w B base X) {k m : Nat} {v : Value} (hk : k ≠ B) (ho : ∀ x, (Value.slice X.oa X.opn.length X.oc).ownBlock = some x → x ≠ k) : CloAt (w.setCell ⟨k, m, none⟩ v) B base X :=
  ⟨(Below.heap_setCell _ _ _ _ (fun e => hk e.symm)).trans h.q, own_same h.own fun x hx _ => Below.heap_setCell _ _ _ _ (ho x hx), h.l175, h.l8, h.lt, h.lb⟩
theorem WTo.far {w w1 : World} {la lb ba : Option Addr} (h : WTo w w1 la lb ba []) {k m : Nat} {v : Value} (hk : w.heap.size ≤ k) : WTo w (w1.setCell ⟨k, m, none⟩ v) la lb ba [] :=
  ⟨by have := h.size; simp [World.setCell]; omega, fun x hx h1 h2 => (Below.heap_setCell _ _ _ _ (show x ≠ k by omega)).trans (h.keep x hx h1 h2), h.loc, fun r hr => by cases hr⟩
set_option maxRecDepth 100000 in
set_option maxHeartbeats 4000000 in
theorem itake_any (B base : Nat) (X : CloR) (l : List It) (x : It) (w : World) (h : CloAt w B base X) (hl : X.opn = l ++ [x]) (hll : l.length ≤ 1000000) :
    Calls Tryd.prog 102 #[.pointer (some ⟨B, 0, none⟩)] w fun e w' => e = .returned (itV x) ∧ CloAt w' B base { X with opn := l } ∧ WTo w w' X.oa X.oa (some ⟨B, 0, none⟩) [] ∧ ∀ b0, b0 ≤ B → b0 ≤ w.heap.size → Below b0 w w' := by
  have HL := Lib.hid hl
  have HLT := Lib.hid fun k hk => (own_block h.own (g := k) hk).2.1
  have hS : Below w.heap.size w (w.alloc (.cells #[.int .i64 0, .int .i64 0, .int .i64 0] 53)) := (Below.refl _ _).alloc (Nat.le_refl _) _
  have HR := Lib.hid (heap_alloc_new w (.cells #[.int .i64 0, .int .i64 0, .int .i64 0] 53))
  have HX := Lib.hid (h.below hS)
  have HS := Lib.hid hS
  have hlen : X.opn.length = l.length + 1 := by rw [hl]; simp
  obtain ⟨z0, z1⟩ := HX.out.opn
  have z2 := heap_lt HX.out.q
  have hx : X.opn[l.length]? = some x := by rw [hl]; simp
  obtain ⟨g, off, hoa, hg, hc⟩ := (own_cells HX.out.own).1.get (by intro e; have := (its_at hx).1; rw [e] at this; simp at this)
  have v0 := hc _ _ (its_at hx).1
  have v1 := hc _ _ (its_at hx).2.1
  have v2 := hc _ _ (its_at hx).2.2
  rw [← Nat.add_assoc] at v1 v2
  rw [hlen] at z0
  have HOA := Lib.hid hoa
  rw [hoa] at z0
  have hcap : l.length + 1 ≤ X.oc := by have := (own_cells HX.out.own).2; omega
  have hcap' : (l.length : Int) ≤ X.oc := by omega
  have e1 : (l.length : Int) < (l.length : Int) + 1 := by omega
  have hwk : IntKind.i64.wrap ((l.length : Int) + 1 - 1) = (l.length : Int) := by rw [show (l.length : Int) + 1 - 1 = (l.length : Int) by omega]; exact IntWalk.i64_in _ (by omega)
  obtain ⟨p, d, a⟩ := x
  unfold itV
  simp only at *
  clear hS hc hx hoa h hl
  go_enter Tryd.func102, Tryd.ntmps102
  go_upto_region 1 with fail
  generalize w.alloc (.cells #[.int .i64 0, .int .i64 0, .int .i64 0] 53) = S at *
  go_upto_region 3 with fail
  have hA : Below S.heap.size S (S.alloc (.cells #[.int .i64 p, .int .i64 d, .int .i64 a] 53)) := (Below.refl _ _).alloc (Nat.le_refl _) _
  have HQX := Lib.hid (heap_alloc_new S (.cells #[.int .i64 p, .int .i64 d, .int .i64 a] 53))
  have HX5 := Lib.hid (HX.out.below hA)
  have hrl := heap_lt HR.out
  have HR5 := Lib.hid ((hA.block _ hrl).trans HR.out)
  have HS5 := Lib.hid (HS.out.trans (hA.mono (Nat.le_of_lt hrl)))
  have HNR := Lib.hid (show w.heap.size ≠ S.heap.size by omega)
  clear hA v0 v1 v2 z0 z1 z2 hg HX HS HR hrl
  generalize S.alloc (.cells #[.int .i64 p, .int .i64 d, .int .i64 a] 53) = S5 at *
  generalize S.heap.size = BX at *
  obtain ⟨z0, z1⟩ := HX5.out.opn
  have z2 := heap_lt HX5.out.q
  rw [hlen, HOA.out] at z0
  have hx6 := HX5.out.pop HL.out
  rw [show Value.slice X.oa l.length X.oc = .slice (some ⟨g, off, none⟩) l.length X.oc by rw [HOA.out]] at hx6
  have HX6 := Lib.hid hx6
  clear hx6
  have hnB : ∀ (k : Nat) (t : TypeId) (c : Array Value), t = 53 → S5.heap[k]? = some (.cells c t (0, 0)) → k ≠ B := fun k t c ht hk e => by
    rw [e, HX5.out.q] at hk
    injection hk with hk
    injection hk with _ hk _
    rw [ht] at hk
    exact absurd hk (by decide)
  have HQX6 := Lib.hid (show (S5.setCell ⟨B, 183, none⟩ (.slice (some ⟨g, off, none⟩) l.length X.oc)).heap[BX]? = _ from (Below.heap_setCell _ _ _ _ (hnB _ _ _ rfl HQX.out)).trans HQX.out)
  have HR6 := Lib.hid (show (S5.setCell ⟨B, 183, none⟩ (.slice (some ⟨g, off, none⟩) l.length X.oc)).heap[w.heap.size]? = _ from (Below.heap_setCell _ _ _ _ (hnB _ _ _ rfl HR5.out)).trans HR5.out)
  have HB6 := Lib.hid fun b0 (h1 : b0 ≤ B) (h2 : b0 ≤ w.heap.size) => ((HS5.out.mono h2).setCell (p := ⟨B, 183, none⟩) h1 (.slice (some ⟨g, off, none⟩) l.length X.oc) : Below b0 w (S5.setCell ⟨B, 183, none⟩ (.slice (some ⟨g, off, none⟩) l.length X.oc)))
  have HW6 := Lib.hid (show WTo w (S5.setCell ⟨B, 183, none⟩ (.slice (some ⟨g, off, none⟩) l.length X.oc)) X.oa X.oa (some ⟨B, 0, none⟩) [] from ⟨(HB6.out 0 (Nat.zero_le _) (Nat.zero_le _)).size, fun k hk _ h4 => (Below.heap_setCell S5 ⟨B, 183, none⟩ _ k (fun e => h4 ⟨B, 0, none⟩ rfl e.symm)).trans (HS5.out.block k hk), fun x hx => .inl ⟨x, hx, rfl⟩, fun r hr => by cases hr⟩)
  have HNB := Lib.hid (hnB _ _ _ rfl HR5.out)
  clear hnB
  go_upto_region 4 with fail
  clear z0 z1 z2
  generalize S5.setCell ⟨B, 183, none⟩ (.slice (some ⟨g, off, none⟩) l.length X.oc) = S6 at *
  have x0 := (blk_cell (i := 0) HQX6.out rfl).1
  have x1 := (blk_cell (i := 1) HQX6.out rfl).1
  have x2 := (blk_cell (i := 2) HQX6.out rfl).1
  have x3 := heap_lt HQX6.out
  obtain ⟨r0, q0⟩ := blk_cell (i := 0) HR6.out rfl
  obtain ⟨r1, q1⟩ := blk_cell (i := 1) HR6.out rfl
  obtain ⟨r2, q2⟩ := blk_cell (i := 2) HR6.out rfl
  have y3 := heap_lt HR6.out
  have HH0 := Lib.hid (heap_set S6 w.heap.size 0 (.int .i64 p) _ _ HR6.out (by simp))
  have HH1 := Lib.hid (heap_set (S6.setCell ⟨w.heap.size, 0, none⟩ (.int .i64 p)) w.heap.size 1 (.int .i64 d) _ _ HH0.out (by simp))
  have HH2 := Lib.hid (heap_set ((S6.setCell ⟨w.heap.size, 0, none⟩ (.int .i64 p)).setCell ⟨w.heap.size, 1, none⟩ (.int .i64 d)) w.heap.size 2 (.int .i64 a) _ _ HH1.out (by simp))
  have hown : ∀ x, (Value.slice X.oa l.length X.oc).ownBlock = some x → x ≠ w.heap.size := fun x hx => by
    obtain ⟨y, hy, rfl⟩ := ownBlock_eq hx
    have := HLT.out y.block (by rw [hy]; rfl)
    omega
  have HEND : Hid (CloAt (((S6.setCell ⟨w.heap.size, 0, none⟩ (.int .i64 p)).setCell ⟨w.heap.size, 1, none⟩ (.int .i64 d)).setCell ⟨w.heap.size, 2, none⟩ (.int .i64 a)) B base { X with opn := l }) := Lib.hid (((HX6.out.far HNB.out hown).far HNB.out hown).far HNB.out hown)
  have HWE := Lib.hid (((HW6.out.far (k := w.heap.size) (m := 0) (v := .int .i64 p) (Nat.le_refl _)).far (k := w.heap.size) (m := 1) (v := .int .i64 d) (Nat.le_refl _)).far (k := w.heap.size) (m := 2) (v := .int .i64 a) (Nat.le_refl _))
  have HBE := Lib.hid fun b0 (h1 : b0 ≤ B) (h2 : b0 ≤ w.heap.size) => (((HB6.out b0 h1 h2).setCell (p := ⟨w.heap.size, 0, none⟩) h2 (.int .i64 p)).setCell (p := ⟨w.heap.size, 1, none⟩) h2 (.int .i64 d)).setCell (p := ⟨w.heap.size, 2, none⟩) h2 (.int .i64 a)
  clear hown
  clear HH0 HH1
  generalize hBR : w.heap.size = BR at *
  have HBR := Lib.hid hBR
  clear hBR
  go_wp2
  refine bodyPost_ret (results_cell_row (g := BR) (t := 53) (cs := #[.int .i64 p, .int .i64 d, .int .i64 a]) (fr := (0, 0)) rfl _ _ _ rfl (by rw [HH2.out]; simp [Array.set!]) Tryd.underlying53 rfl (by kernel_rfl)) rfl ?_
  exact ⟨rfl, by first | exact HEND.out | (rw [HOA.out] at *; exact HEND.out), HWE.out, fun b0 h1 h2 => HBE.out b0 h1 (by rw [← HBR.out]; exact h2)⟩
end Go.Proofs.YtejjdfmobiegdaaDoor
