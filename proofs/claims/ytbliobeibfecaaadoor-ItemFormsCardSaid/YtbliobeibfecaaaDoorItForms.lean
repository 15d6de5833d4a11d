/- ItemForms, walked. -/
import Derived.Test.YtbliobeibfecaaaDoorItFm
import Derived.Test.YtbliobeibfecaaaDoorRowC
import Derived.Deep.RegionHeld3
set_option linter.unusedVariables false
namespace Go.Proofs.YtbliobeibfecaaaDoor
open Go.RowKit
open Doc

/-- A call that answers just these items. -/
def Gives (E : List It) (k : Nat) (W : World) (e : Ending) (w' : World) : Prop := ∃ (a : Option Addr) (c : Nat), e = .returned (.slice a k c) ∧ ItsAt w' a E ∧ Below W.heap.size W w'
def Says (W : World) (e : Ending) (w' : World) : Prop := e = .returned (.bool true) ∧ Below W.heap.size W w'
theorem close_gives {M : MakR} {F : List Nat} (hM : MakG fi M) {l E : List It} {k : Nat} (hf : fits0 l E = true) (hk : E.length = k) {W W' : World} {e : Ending} (h : CloseTo (mkP M F) l W e W') : Gives E k W e W' := by
  obtain ⟨L, a, c, rfl, hL, _, ho, hb⟩ := h
  obtain rfl := fits_is hM hf hL
  exact ⟨a, c, by rw [hk], ho.its, hb⟩
def wrongI (m : Int) : List It := [(1, 0, 0), (4, 0, 0), (-1 - (1 + m), 0, 0), (4 + (1 + m), 0, 0), (0, 2 + (1 + m), 0), (0, -(1 + m), 0), (0, 0, 3 + (1 + m)), (0, 0, -(1 + m)), (-1, 0, 1), (-1, 2, 0)]
theorem it0_no {x : It} (h : ∀ l, rt0 x.1 = some l → (0 ≤ x.2.1 ∧ x.2.1 ≤ (l.length : Int)) → (x.2.2 = 0 ∨ (x.1 ≠ -1 ∧ 1 ≤ x.2.2 ∧ x.2.2 ≤ 3)) → False) : it0 x = false := by
  unfold it0
  split
  · rename_i l hl
    rw [Bool.and_eq_false_iff, decide_eq_false_iff_not, decide_eq_false_iff_not]
    by_cases h1 : 0 ≤ x.2.1 ∧ x.2.1 ≤ (l.length : Int)
    · exact .inr fun h2 => h l hl h1 h2
    · exact .inl h1
  · rfl
theorem rt0_none {p : Int} (h : p < -1 ∨ p = 1 ∨ 4 ≤ p) : rt0 p = none := by
  unfold rt0
  rw [if_neg (by omega), if_neg (by omega), if_neg (by omega), if_neg (by omega)]
theorem wrong_no {m : Int} (h0 : 0 ≤ m) {x : It} (hx : x ∈ wrongI m) : it0 x = false := by
  simp only [wrongI, List.mem_cons, List.not_mem_nil, or_false] at hx
  rcases hx with rfl | rfl | rfl | rfl | rfl | rfl | rfl | rfl | rfl | rfl
  all_goals refine it0_no fun l hl h1 h2 => ?_
  all_goals simp only at hl h1 h2
  all_goals first
    | (rw [rt0_none (by omega)] at hl; cases hl; done)
    | (cases hl; simp only [List.length_cons, List.length_nil] at h1; omega)
theorem its_new0 (W : World) (l : List It) : ItsAt (W.alloc (.cells (itsV l).toArray 48)) (some ⟨W.heap.size, 0, none⟩) l := cells_new W (itsV l).toArray 48
theorem same_yes {W : World} {a b : Option Addr} {l : List It} {k : Nat} (hk : l.length = k) (ca cb : Nat) (ha : ItsAt W a l) (hb : ItsAt W b l) (hl : k ≤ 1000) : Calls Tryd.prog 25 #[.slice a k ca, .slice b k cb] W (Says W) := by
  subst hk
  refine (isame_any a b ca cb l l W ha hb (by omega) (by omega)).mono ?_
  rintro e w' ⟨he, n, rfl⟩
  exact ⟨he.trans (by simp), below_drews (Below.refl _ _) n⟩
theorem same_lay {W : World} {a : Option Addr} {l : List It} {k : Nat} (hk : l.length = k) (ca : Nat) (ha : ItsAt W a l) (hl : k ≤ 1000) : Calls Tryd.prog 25 #[.slice a k ca, .slice (some ⟨W.heap.size, 0, none⟩) k k] (W.alloc (.cells (itsV l).toArray 48)) (Says (W.alloc (.cells (itsV l).toArray 48))) :=
  same_yes hk ca _ (Cells.below ha ((Below.refl _ _).alloc (Nat.le_refl _) _)) (its_new0 W l) hl
theorem same_laid {W W' : World} {a : Option Addr} {l : List It} {k : Nat} (hk : l.length = k) (ca : Nat) (hb : Below (W.alloc (.cells (itsV l).toArray 48)).heap.size (W.alloc (.cells (itsV l).toArray 48)) W') (ha : ItsAt W' a l) (hl : k ≤ 1000) : Calls Tryd.prog 25 #[.slice a k ca, .slice (some ⟨W.heap.size, 0, none⟩) k k] W' (Says W') :=
  same_yes hk ca _ ha (Cells.below (its_new0 W l) hb) hl
theorem gform3 {w : World} {v : Value} {g : Gr} (h : GramAt w v g) : ∃ a1 a2 a3 c1 c2 c3, v = .agg #[.slice a1 g.terms.length c1, .slice a2 g.nons.length c2, .slice a3 g.prods.length c3] := by
  obtain ⟨a1, a2, a3, c1, c2, c3, ls, rfl, hp, _⟩ := h
  have hpl : ls.length = g.prods.length := by rw [← hp, List.length_map]
  exact ⟨a1, a2, a3, c1, c2, c3, by rw [hpl]⟩
set_option maxRecDepth 100000 in
set_option maxHeartbeats 16000000 in
theorem itemForms_walk (n : Int) (w : World) (HT : Sl.Tab w) :
    Calls Tryd.prog 5 #[.int .i64 n] w fun e w' => e = .returned (.bool true) ∧ Below w.heap.size w w' := by
  have HTT := Lib.hid HT
  have HP1 := Lib.hid (rparse_ok ⟨#[83, 58, 32, 65, 32, 98, 32, 124, 32, 99, 32, 85, 10, 65, 58, 32, 124, 32, 97, 32, 65, 10, 85, 58, 32, 85, 32, 97, 10]⟩ fi w (by decide) fi_parse)
  have HNW := Lib.hid fun (v : Value) (W : World) (h : GramAt W v fi) => (inew_any v fi W h fi_check).mono fun e w' ⟨hb, he⟩ => (by
    rcases he with ⟨_, BM, BT, bt, M, F, he, hM, hF, hm⟩ | ⟨hn, _⟩
    · exact ⟨hb, BM, BT, bt, M, F, he, hM, hm⟩
    · exact absurd fi_fru hn : Below W.heap.size W w' ∧ ∃ (BM BT bt : Nat) (M : MakR) (F : List Nat), e = Ending.returned (.tuple #[.pointer (some ⟨BM, 0, none⟩), .int .i64 0]) ∧ MakG fi M ∧ MakT w' BM M BT bt F)
  have HWI := Lib.hid fun W => within_any n 50 (by omega) (by omega) W
  clear HT
  go_enter Tryd.func5, Tryd.ntmps5
  go_upto_region 2 with (go_at_call 23; refine HP1.out.mono ?_; rintro e w1 ⟨v, rfl, hb1, hg1⟩; obtain ⟨a1, a2, a3, c1, c2, c3, rfl⟩ := gform3 hg1.at_)
  have hbS : Below w1.heap.size w1 (w1.alloc (.cells #[.slice a1 fi.terms.length c1, .slice a2 fi.nons.length c2, .slice a3 fi.prods.length c3] 29)) := (Below.refl _ _).alloc (Nat.le_refl _) _
  have q0 := heap_alloc_new w1 (.cells #[.slice a1 fi.terms.length c1, .slice a2 fi.nons.length c2, .slice a3 fi.prods.length c3] 29)
  have x0 := (blk_cell (i := 0) q0 rfl).1
  have x1 := (blk_cell (i := 1) q0 rfl).1
  have x2 := (blk_cell (i := 2) q0 rfl).1
  have xl := heap_lt q0
  have HG := Lib.hid (hg1.at_.below hbS)
  have HBA := Lib.hid (hb1.trans (hbS.mono hb1.size))
  clear hb1 hg1 hbS q0 HP1
  generalize w1.alloc (.cells #[.slice a1 fi.terms.length c1, .slice a2 fi.nons.length c2, .slice a3 fi.prods.length c3] 29) = S at *
  generalize w1.heap.size = B1 at *
  go_upto_region 5 with (go_at_call 24; refine (HNW.out _ _ HG.out).mono ?_; rintro e w2 ⟨hb2, BM, BT, bt, M, F, rfl, hM, hm⟩)
  have hb2' : Below S.heap.size S w2 := hb2
  clear HNW hb2 x0 x1 x2 xl HG
  go_upto_region 6 with fail
  have hF4 : ItsAt (w2.alloc (.cells #[.int .i64 (-1), .int .i64 0, .int .i64 0, .int .i64 0, .int .i64 0, .int .i64 0, .int .i64 2, .int .i64 0, .int .i64 1, .int .i64 3, .int .i64 0, .int .i64 1] 48)) (some ⟨w2.heap.size, 0, none⟩) firstI := its_new0 w2 firstI
  have hB4 : Below w2.heap.size w2 (w2.alloc (.cells #[.int .i64 (-1), .int .i64 0, .int .i64 0, .int .i64 0, .int .i64 0, .int .i64 0, .int .i64 2, .int .i64 0, .int .i64 1, .int .i64 3, .int .i64 0, .int .i64 1] 48)) := (Below.refl _ _).alloc (Nat.le_refl _) _
  have hm4 := hm.below hB4
  have hbw : Below w.heap.size w (w2.alloc (.cells #[.int .i64 (-1), .int .i64 0, .int .i64 0, .int .i64 0, .int .i64 0, .int .i64 0, .int .i64 2, .int .i64 0, .int .i64 1, .int .i64 3, .int .i64 0, .int .i64 1] 48)) := HBA.out.trans ((hb2'.trans (hB4.mono hb2'.size)).mono HBA.out.size)
  clear hB4 hm hb2'
  generalize w2.alloc (.cells #[.int .i64 (-1), .int .i64 0, .int .i64 0, .int .i64 0, .int .i64 0, .int .i64 0, .int .i64 2, .int .i64 0, .int .i64 1, .int .i64 3, .int .i64 0, .int .i64 1] 48) = S4 at *
  generalize w2.heap.size = B4 at *
  have HB4 := Lib.hid hbw
  have HT4 := Lib.hid (HTT.out.below hbw)
  have HM4 := Lib.hid hm4
  have HF4 := Lib.hid hF4
  clear hbw hm4 hF4 HTT HBA
  have HBG := Lib.hid fun (W : World) (h : Hid (Below S4.heap.size S4 W)) => (show Calls Tryd.prog 26 #[.pointer (some ⟨BM, 0, none⟩)] W (Gives firstI 4 W) from (ibegin_any BM BT bt M F W (HM4.out.below h.out) (HT4.out.below h.out)).mono fun e w' h => close_gives hM fits_1 rfl h)
  have HCL := Lib.hid fun (W : World) (h : Hid (Below S4.heap.size S4 W)) => (show Calls Tryd.prog 27 #[.pointer (some ⟨BM, 0, none⟩), .slice (some ⟨W.heap.size, 0, none⟩) 1 1] (W.alloc (.cells #[.int .i64 (-1), .int .i64 0, .int .i64 0] 48)) (Gives firstI 4 (W.alloc (.cells #[.int .i64 (-1), .int .i64 0, .int .i64 0] 48))) from
    (iclose_any BM BT bt M F _ 1 [ownI] _ (HM4.out.below (h.out.alloc h.out.size _)) (HT4.out.below (h.out.alloc h.out.size _)) (its_new0 W [ownI]) (by simp)).mono fun e w' h => close_gives hM fits_1 rfl h)
  have HG3 := Lib.hid fun (W : World) (h : Hid (Below S4.heap.size S4 W)) => (show Calls Tryd.prog 28 #[.pointer (some ⟨BM, 0, none⟩), .slice (some ⟨B4, 0, none⟩) 4 4, .int .i64 3] W (Gives [(2, 0, 1), (3, 0, 1), (3, 1, 1)] 3 W) from
    (igo_any BM BT bt M F _ 4 firstI 3 W (HM4.out.below h.out) (HT4.out.below h.out) (Cells.below HF4.out h.out) (by decide)).mono fun e w' h => close_gives hM fits_3 rfl (by rw [← fi_over hM]; exact h))
  have HG101 := Lib.hid fun (W : World) (h : Hid (Below S4.heap.size S4 W)) => (show Calls Tryd.prog 28 #[.pointer (some ⟨BM, 0, none⟩), .slice (some ⟨B4, 0, none⟩) 4 4, .int .i64 101] W (Gives [(0, 1, 0)] 1 W) from
    (igo_any BM BT bt M F _ 4 firstI 101 W (HM4.out.below h.out) (HT4.out.below h.out) (Cells.below HF4.out h.out) (by decide)).mono fun e w' h => close_gives hM fits_101 rfl (by rw [← fi_over hM]; exact h))
  have HG100 := Lib.hid fun (W : World) (h : Hid (Below S4.heap.size S4 W)) => (show Calls Tryd.prog 28 #[.pointer (some ⟨BM, 0, none⟩), .slice (some ⟨B4, 0, none⟩) 4 4, .int .i64 100] W (Gives [(-1, 1, 0)] 1 W) from
    (igo_any BM BT bt M F _ 4 firstI 100 W (HM4.out.below h.out) (HT4.out.below h.out) (Cells.below HF4.out h.out) (by decide)).mono fun e w' h => close_gives hM fits_100 rfl (by rw [← fi_over hM]; exact h))
  have HG2 := Lib.hid fun (W : World) (h : Hid (Below S4.heap.size S4 W)) => (show Calls Tryd.prog 28 #[.pointer (some ⟨BM, 0, none⟩), .slice (some ⟨B4, 0, none⟩) 4 4, .int .i64 2] W (Gives [] 0 W) from
    (igo_any BM BT bt M F _ 4 firstI 2 W (HM4.out.below h.out) (HT4.out.below h.out) (Cells.below HF4.out h.out) (by decide)).mono fun e w' h => close_gives hM fits_2 rfl (by rw [← fi_over hM]; exact h))
  have HG0 := Lib.hid fun (W : World) (h : Hid (Below S4.heap.size S4 W)) => (show Calls Tryd.prog 28 #[.pointer (some ⟨BM, 0, none⟩), .slice (some ⟨B4, 0, none⟩) 4 4, .int .i64 0] W (Gives [] 0 W) from
    (igo_any BM BT bt M F _ 4 firstI 0 W (HM4.out.below h.out) (HT4.out.below h.out) (Cells.below HF4.out h.out) (by decide)).mono fun e w' h => close_gives hM fits_0 rfl (by rw [← fi_over hM]; exact h))
  have HSF := Lib.hid fun (W : World) (a : Option Addr) (c : Nat) (h : Hid (Below S4.heap.size S4 W)) (hi : ItsAt W a firstI) => (show Calls Tryd.prog 25 #[.slice a 4 c, .slice (some ⟨B4, 0, none⟩) 4 4] W (Says W) from same_yes (l := firstI) (k := 4) rfl c 4 hi (Cells.below HF4.out h.out) (by omega))
  have HSTA := Lib.hid fun (W : World) (a : Option Addr) (c : Nat) (hi : ItsAt W a [(2, 0, 1), (3, 0, 1), (3, 1, 1)]) => (show Calls Tryd.prog 25 #[.slice a 3 c, .slice (some ⟨W.heap.size, 0, none⟩) 3 3] (W.alloc (.cells #[.int .i64 2, .int .i64 0, .int .i64 1, .int .i64 3, .int .i64 0, .int .i64 1, .int .i64 3, .int .i64 1, .int .i64 1] 48)) (Says (W.alloc (.cells #[.int .i64 2, .int .i64 0, .int .i64 1, .int .i64 3, .int .i64 0, .int .i64 1, .int .i64 3, .int .i64 1, .int .i64 1] 48))) from same_lay (l := [(2, 0, 1), (3, 0, 1), (3, 1, 1)]) (k := 3) rfl c hi (by omega))
  have HSTB := Lib.hid fun (W W' : World) (a : Option Addr) (c : Nat) (hb : Below (W.alloc (.cells #[.int .i64 2, .int .i64 0, .int .i64 1, .int .i64 3, .int .i64 0, .int .i64 1, .int .i64 3, .int .i64 1, .int .i64 1] 48)).heap.size (W.alloc (.cells #[.int .i64 2, .int .i64 0, .int .i64 1, .int .i64 3, .int .i64 0, .int .i64 1, .int .i64 3, .int .i64 1, .int .i64 1] 48)) W') (hi : ItsAt W' a [(2, 0, 1), (3, 0, 1), (3, 1, 1)]) => (show Calls Tryd.prog 25 #[.slice a 3 c, .slice (some ⟨W.heap.size, 0, none⟩) 3 3] W' (Says W') from same_laid (l := [(2, 0, 1), (3, 0, 1), (3, 1, 1)]) (k := 3) rfl c hb hi (by omega))
  have HSOA := Lib.hid fun (W : World) (a : Option Addr) (c : Nat) (hi : ItsAt W a [(0, 1, 0)]) => (show Calls Tryd.prog 25 #[.slice a 1 c, .slice (some ⟨W.heap.size, 0, none⟩) 1 1] (W.alloc (.cells #[.int .i64 0, .int .i64 1, .int .i64 0] 48)) (Says (W.alloc (.cells #[.int .i64 0, .int .i64 1, .int .i64 0] 48))) from same_lay (l := [(0, 1, 0)]) (k := 1) rfl c hi (by omega))
  have HSOB := Lib.hid fun (W W' : World) (a : Option Addr) (c : Nat) (hb : Below (W.alloc (.cells #[.int .i64 0, .int .i64 1, .int .i64 0] 48)).heap.size (W.alloc (.cells #[.int .i64 0, .int .i64 1, .int .i64 0] 48)) W') (hi : ItsAt W' a [(0, 1, 0)]) => (show Calls Tryd.prog 25 #[.slice a 1 c, .slice (some ⟨W.heap.size, 0, none⟩) 1 1] W' (Says W') from same_laid (l := [(0, 1, 0)]) (k := 1) rfl c hb hi (by omega))
  have HSPA := Lib.hid fun (W : World) (a : Option Addr) (c : Nat) (hi : ItsAt W a [(-1, 1, 0)]) => (show Calls Tryd.prog 25 #[.slice a 1 c, .slice (some ⟨W.heap.size, 0, none⟩) 1 1] (W.alloc (.cells #[.int .i64 (-1), .int .i64 1, .int .i64 0] 48)) (Says (W.alloc (.cells #[.int .i64 (-1), .int .i64 1, .int .i64 0] 48))) from same_lay (l := [(-1, 1, 0)]) (k := 1) rfl c hi (by omega))
  have HSPB := Lib.hid fun (W W' : World) (a : Option Addr) (c : Nat) (hb : Below (W.alloc (.cells #[.int .i64 (-1), .int .i64 1, .int .i64 0] 48)).heap.size (W.alloc (.cells #[.int .i64 (-1), .int .i64 1, .int .i64 0] 48)) W') (hi : ItsAt W' a [(-1, 1, 0)]) => (show Calls Tryd.prog 25 #[.slice a 1 c, .slice (some ⟨W.heap.size, 0, none⟩) 1 1] W' (Says W') from same_laid (l := [(-1, 1, 0)]) (k := 1) rfl c hb hi (by omega))
  go_cut [100] from 44 to 100 (fun v wx => v = .bool false ∧ Hid (Below S4.heap.size S4 wx))
  case first =>
    have hv0 := Lib.hid (Below.refl S4.heap.size S4)
    go_wp2_with (first
      | (go_at_call 26; (with_reducible refine (HBG.out S4 hv0).mono ?_); rintro e v1 ⟨z1, k1, rfl, hi1, hb1⟩; have hv1 := Lib.hid (hv0.out.trans (hb1.mono hv0.out.size)))
      | (go_at_call 25; (with_reducible refine (HSF.out v1 _ _ hv1 hi1).mono ?_); rintro e v2 ⟨rfl, hb2⟩; have hv2 := Lib.hid (hv1.out.trans (hb2.mono hv1.out.size)))
      | (go_at_call 27; (with_reducible refine (HCL.out v2 hv2).mono ?_); rintro e v3 ⟨z3, k3, rfl, hi3, hb3⟩; have hv3 := Lib.hid ((hv2.out.alloc hv2.out.size _).trans (hb3.mono (hv2.out.alloc hv2.out.size _).size)))
      | (go_at_call 25; (with_reducible refine (HSF.out v3 _ _ hv3 hi3).mono ?_); rintro e v4 ⟨rfl, hb4⟩; have hv4 := Lib.hid (hv3.out.trans (hb4.mono hv3.out.size)))
      | (go_at_call 28; (with_reducible refine (HG3.out v4 hv4).mono ?_); rintro e v5 ⟨z5, k5, rfl, hi5, hb5⟩; have hv5 := Lib.hid (hv4.out.trans (hb5.mono hv4.out.size)))
      | (go_at_call 25; (with_reducible refine (HSTA.out v5 _ _ hi5).mono ?_); rintro e v6 ⟨rfl, hb6⟩; have hv6 := Lib.hid ((hv5.out.alloc hv5.out.size _).trans (hb6.mono (hv5.out.alloc hv5.out.size _).size)))
      | (go_at_call 28; (with_reducible refine (HG101.out v6 hv6).mono ?_); rintro e v7 ⟨z7, k7, rfl, hi7, hb7⟩; have hv7 := Lib.hid (hv6.out.trans (hb7.mono hv6.out.size)))
      | (go_at_call 25; (with_reducible refine (HSOA.out v7 _ _ hi7).mono ?_); rintro e v8 ⟨rfl, hb8⟩; have hv8 := Lib.hid ((hv7.out.alloc hv7.out.size _).trans (hb8.mono (hv7.out.alloc hv7.out.size _).size)))
      | (go_at_call 28; (with_reducible refine (HG100.out v8 hv8).mono ?_); rintro e v9 ⟨z9, k9, rfl, hi9, hb9⟩; have hv9 := Lib.hid (hv8.out.trans (hb9.mono hv8.out.size)))
      | (go_at_call 25; (with_reducible refine (HSPA.out v9 _ _ hi9).mono ?_); rintro e v10 ⟨rfl, hb10⟩; have hv10 := Lib.hid ((hv9.out.alloc hv9.out.size _).trans (hb10.mono (hv9.out.alloc hv9.out.size _).size)))
      | (go_at_call 28; (with_reducible refine (HG2.out v10 hv10).mono ?_); rintro e v11 ⟨z11, k11, rfl, hi11, hb11⟩; have hv11 := Lib.hid (hv10.out.trans (hb11.mono hv10.out.size)))
      | (go_at_call 28; (with_reducible refine (HG0.out v11 hv11).mono ?_); rintro e v12 ⟨z12, k12, rfl, hi12, hb12⟩; have hv12 := Lib.hid (hv11.out.trans (hb12.mono hv11.out.size))))
    go_meet
    case rel => exact ⟨rfl, hv12⟩
  case rest =>
  obtain ⟨rfl, HB5⟩ := hcut
  rename World => w5
  clear HBG HG3 HG101 HG100 HG2 HG0 HSF HSTA HSTB HSOA HSOB HSPA HSPB
  obtain ⟨m, hm, hm0, hm1⟩ : ∃ m : Int, n % 50 = m ∧ 0 ≤ m ∧ m < 50 := ⟨_, rfl, by omega, by omega⟩
  rw [hm] at HWI
  clear hm
  go_upto_region 9 with (go_at_call 10; (with_reducible refine (HWI.out _).mono ?_); rintro e w9 ⟨rfl, hw9⟩; obtain rfl := hw9.symm)
  go_wp2_with fail
  have hL6 : ItsAt (w5.alloc (.cells #[.int .i64 1, .int .i64 0, .int .i64 0, .int .i64 4, .int .i64 0, .int .i64 0, .int .i64 (-1 - (1 + m)), .int .i64 0, .int .i64 0, .int .i64 (4 + (1 + m)), .int .i64 0, .int .i64 0, .int .i64 0, .int .i64 (2 + (1 + m)), .int .i64 0, .int .i64 0, .int .i64 (-(1 + m)), .int .i64 0, .int .i64 0, .int .i64 0, .int .i64 (3 + (1 + m)), .int .i64 0, .int .i64 0, .int .i64 (-(1 + m)), .int .i64 (-1), .int .i64 0, .int .i64 1, .int .i64 (-1), .int .i64 2, .int .i64 0] 48)) (some ⟨w5.heap.size, 0, none⟩) (wrongI m) := its_new0 w5 (wrongI m)
  have hB6 := HB5.out.alloc HB5.out.size (.cells #[.int .i64 1, .int .i64 0, .int .i64 0, .int .i64 4, .int .i64 0, .int .i64 0, .int .i64 (-1 - (1 + m)), .int .i64 0, .int .i64 0, .int .i64 (4 + (1 + m)), .int .i64 0, .int .i64 0, .int .i64 0, .int .i64 (2 + (1 + m)), .int .i64 0, .int .i64 0, .int .i64 (-(1 + m)), .int .i64 0, .int .i64 0, .int .i64 0, .int .i64 (3 + (1 + m)), .int .i64 0, .int .i64 0, .int .i64 (-(1 + m)), .int .i64 (-1), .int .i64 0, .int .i64 1, .int .i64 (-1), .int .i64 2, .int .i64 0] 48)
  have hl6 : w5.heap.size < (w5.alloc (.cells #[.int .i64 1, .int .i64 0, .int .i64 0, .int .i64 4, .int .i64 0, .int .i64 0, .int .i64 (-1 - (1 + m)), .int .i64 0, .int .i64 0, .int .i64 (4 + (1 + m)), .int .i64 0, .int .i64 0, .int .i64 0, .int .i64 (2 + (1 + m)), .int .i64 0, .int .i64 0, .int .i64 (-(1 + m)), .int .i64 0, .int .i64 0, .int .i64 0, .int .i64 (3 + (1 + m)), .int .i64 0, .int .i64 0, .int .i64 (-(1 + m)), .int .i64 (-1), .int .i64 0, .int .i64 1, .int .i64 (-1), .int .i64 2, .int .i64 0] 48)).heap.size := by simp
  generalize w5.alloc (.cells #[.int .i64 1, .int .i64 0, .int .i64 0, .int .i64 4, .int .i64 0, .int .i64 0, .int .i64 (-1 - (1 + m)), .int .i64 0, .int .i64 0, .int .i64 (4 + (1 + m)), .int .i64 0, .int .i64 0, .int .i64 0, .int .i64 (2 + (1 + m)), .int .i64 0, .int .i64 0, .int .i64 (-(1 + m)), .int .i64 0, .int .i64 0, .int .i64 0, .int .i64 (3 + (1 + m)), .int .i64 0, .int .i64 0, .int .i64 (-(1 + m)), .int .i64 (-1), .int .i64 0, .int .i64 1, .int .i64 (-1), .int .i64 2, .int .i64 0] 48) = S6 at *
  generalize w5.heap.size = B6 at *
  have HL6 := Lib.hid hL6
  have HB6 := Lib.hid hB6
  have HNX := Lib.hid fun (x1 x2 x3 : Int) (W : World) (h : Hid (Below S4.heap.size S4 W)) (hx : it0 (x1, x2, x3) = false) => (show Calls Tryd.prog 29 #[.pointer (some ⟨BM, 0, none⟩), .agg #[.int .i64 x1, .int .i64 x2, .int .i64 x3]] W (fun e w' => e = .returned (.tuple #[.int .i64 0, .bool false]) ∧ Below W.heap.size W w') from
    (inext_any BM M (x1, x2, x3) W (HM4.out.below h.out).at_ (HM4.out.ok.ok)).mono fun e w' ⟨he, hb⟩ => ⟨he.trans (by rw [fi_nxt hM]; unfold rs0; rw [if_neg (by rw [hx]; simp)]; rfl), hb⟩)
  have HRI := Lib.hid fun (x1 x2 x3 : Int) (b : Bool) (W : World) (h : Hid (Below S4.heap.size S4 W)) (hx : it0 (x1, x2, x3) = b) => (show Calls Tryd.prog 30 #[.pointer (some ⟨BM, 0, none⟩), .agg #[.int .i64 x1, .int .i64 x2, .int .i64 x3]] W (fun e w' => e = .returned (.bool b) ∧ Below W.heap.size W w') from
    (isIt_any BM M (x1, x2, x3) W (HM4.out.below h.out).at_ (HM4.out.ok.ok)).mono fun e w' ⟨he, hb⟩ => ⟨he.trans (by rw [fi_is hM, hx]), hb⟩)
  have HCX := Lib.hid fun (x1 x2 x3 : Int) (W : World) (h : Hid (Below S4.heap.size S4 W)) (hx : it0 (x1, x2, x3) = false) => (show Calls Tryd.prog 27 #[.pointer (some ⟨BM, 0, none⟩), .slice (some ⟨W.heap.size, 0, none⟩) 1 1] (W.alloc (.cells #[.int .i64 x1, .int .i64 x2, .int .i64 x3] 48)) (Gives [] 0 (W.alloc (.cells #[.int .i64 x1, .int .i64 x2, .int .i64 x3] 48))) from
    (iclose_any BM BT bt M F _ 1 [(x1, x2, x3)] _ (HM4.out.below (h.out.alloc h.out.size _)) (HT4.out.below (h.out.alloc h.out.size _)) (its_new0 W [(x1, x2, x3)]) (by simp)).mono fun e w' h => close_gives hM (fits_no hx) rfl h)
  clear hL6 hB6
  go_loopw [128] (fun iv wr => ∃ k : Nat, k ≤ 10 ∧ iv = .int .i64 k ∧ Hid (Below S6.heap.size S6 wr)) (fun i _ => 10 - (intOf i).toNat)
  case atStart => exact ⟨0, by omega, rfl, Lib.hid (Below.refl _ _)⟩
  case round =>
    obtain ⟨k, hk, rfl, HWR⟩ := hrel
    by_cases hlt : k < 10
    · have hlt' : (k : Int) < 10 := by omega
      obtain ⟨⟨x1, x2, x3⟩, hx⟩ : ∃ x, (wrongI m)[k]? = some x := ⟨_, List.getElem?_eq_getElem (by simpa [wrongI] using hlt)⟩
      have HXN := Lib.hid (wrong_no hm0 (List.mem_of_getElem? hx))
      obtain ⟨y0, y1, y2, yl⟩ := (show ItsAt wr (some ⟨B6, 0, none⟩) (wrongI m) from Cells.below HL6.out HWR.out).cell hx
      rw [Nat.zero_add] at y0 y1 y2
      simp only at y0 y1 y2
      go_upto_region 12 with fail
      have hQ7 := heap_alloc_new wr (.cells #[.int .i64 x1, .int .i64 x2, .int .i64 x3] 48)
      have hB7 : Below S6.heap.size S6 (wr.alloc (.cells #[.int .i64 x1, .int .i64 x2, .int .i64 x3] 48)) := HWR.out.alloc HWR.out.size _
      clear y0 y1 y2 yl hx HWR
      generalize wr.alloc (.cells #[.int .i64 x1, .int .i64 x2, .int .i64 x3] 48) = S7 at *
      generalize wr.heap.size = B7 at *
      have HX7 := Lib.hid fun (W : World) (h : Below S7.heap.size S7 W) => (⟨(blk_cell (i := 0) ((h.block B7 (heap_lt hQ7)).trans hQ7) rfl).1, (blk_cell (i := 1) ((h.block B7 (heap_lt hQ7)).trans hQ7) rfl).1, (blk_cell (i := 2) ((h.block B7 (heap_lt hQ7)).trans hQ7) rfl).1, heap_lt ((h.block B7 (heap_lt hQ7)).trans hQ7)⟩ : W.cell? ⟨B7, 0, none⟩ = some (.int .i64 x1) ∧ W.cell? ⟨B7, 1, none⟩ = some (.int .i64 x2) ∧ W.cell? ⟨B7, 2, none⟩ = some (.int .i64 x3) ∧ B7 < W.heap.size)
      have HV7 := Lib.hid (HB6.out.trans (hB7.mono HB6.out.size))
      have HB7 := Lib.hid hB7
      clear hB7 hQ7
      obtain ⟨y0, y1, y2, yl⟩ := HX7.out S7 (Below.refl _ _)
      go_wp2_with (first
        | (go_at_call 29; (with_reducible refine (HNX.out _ _ _ S7 HV7 HXN.out).mono ?_); rintro e v1 ⟨rfl, hb1⟩; have hv1 := Lib.hid (HV7.out.trans (hb1.mono HV7.out.size)); obtain ⟨q0, q1, q2, ql⟩ := HX7.out v1 hb1)
        | (go_at_call 30; (with_reducible refine (HRI.out _ _ _ _ v1 hv1 HXN.out).mono ?_); rintro e v2 ⟨rfl, hb2⟩; have hv2 := Lib.hid (hv1.out.trans (hb2.mono hv1.out.size)); have hs2 := Lib.hid (hb1.trans (hb2.mono hb1.size)); obtain ⟨r0, r1, r2, rl⟩ := HX7.out v2 hs2.out)
        | (go_at_call 27; (with_reducible refine (HCX.out _ _ _ v2 hv2 HXN.out).mono ?_); rintro e v3 ⟨z3, k3, rfl, hi3, hb3⟩; have hs3 := Lib.hid ((hs2.out.alloc hs2.out.size _).trans (hb3.mono (hs2.out.alloc hs2.out.size _).size))))
      go_roundw
      case rel => exact ⟨k + 1, by omega, by go_num, Lib.hid (HB7.out.trans (hs3.out.mono HB7.out.size))⟩
      case measure => simp [intOf]; omega
    · have hge : ¬ (k : Int) < 10 := by omega
      have HVR := Lib.hid (HB6.out.trans (HWR.out.mono HB6.out.size))
      have HNA := Lib.hid (show Calls Tryd.prog 29 #[.pointer (some ⟨BM, 0, none⟩), .agg #[.int .i64 3, .int .i64 1, .int .i64 3]] wr (fun e w' => e = .returned (.tuple #[.int .i64 101, .bool true]) ∧ Below wr.heap.size wr w') from
        (inext_any BM M (3, 1, 3) wr (HM4.out.below HVR.out).at_ (HM4.out.ok.ok)).mono fun e w' ⟨he, hb⟩ => ⟨he.trans (by rw [fi_nxt hM]; rfl), hb⟩)
      have HNB := Lib.hid fun (W : World) (h : Hid (Below S4.heap.size S4 W)) => (show Calls Tryd.prog 29 #[.pointer (some ⟨BM, 0, none⟩), .agg #[.int .i64 3, .int .i64 2, .int .i64 3]] W (fun e w' => e = .returned (.tuple #[.int .i64 0, .bool false]) ∧ Below W.heap.size W w') from
        (inext_any BM M (3, 2, 3) W (HM4.out.below h.out).at_ (HM4.out.ok.ok)).mono fun e w' ⟨he, hb⟩ => ⟨he.trans (by rw [fi_nxt hM]; rfl), hb⟩)
      have HRB := Lib.hid fun (W : World) (h : Hid (Below S4.heap.size S4 W)) => HRI.out 3 2 3 true W h rfl
      have HWK := Lib.hid fun (W : World) (h : Hid (Below S4.heap.size S4 W)) => wakes11_any W (HT4.out.below h.out)
      go_wp2_with (first
        | (go_at_call 29; (with_reducible refine HNA.out.mono ?_); rintro e u1 ⟨rfl, gb1⟩; have gv1 := Lib.hid (HVR.out.trans (gb1.mono HVR.out.size)))
        | (go_at_call 29; (with_reducible refine (HNB.out u1 gv1).mono ?_); rintro e u2 ⟨rfl, gb2⟩; have gv2 := Lib.hid (gv1.out.trans (gb2.mono gv1.out.size)))
        | (go_at_call 30; (with_reducible refine (HRB.out u2 gv2).mono ?_); rintro e u3 ⟨rfl, gb3⟩; have gv3 := Lib.hid (gv2.out.trans (gb3.mono gv2.out.size)))
        | (go_at_call 31; (with_reducible refine (HWK.out u3 gv3).mono ?_); rintro e u4 ⟨rfl, gb4⟩))
      go_ret
      exact ⟨rfl, HB4.out.trans ((gv3.out.trans (gb4.mono gv3.out.size)).mono HB4.out.size)⟩
end Go.Proofs.YtbliobeibfecaaaDoor
