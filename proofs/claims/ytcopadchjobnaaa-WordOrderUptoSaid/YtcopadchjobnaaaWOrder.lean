/- WordOrder: walked, of rows that are not too long. -/
import Derived.Test.YtcopadchjobnaaaAppAll
import Derived.Test.YtcopadchjobnaaaWake7
import Derived.Deep.Cut
set_option linter.unusedVariables false
namespace Go.Proofs.Ytcopadchjobnaaa
open Go.RowKit
open Doc

/-- How many of the first ones hold. -/
def cnt3 : List Bool → Nat → Nat
  | _, 0 => 0
  | [], _ => 0
  | b :: l, j + 1 => (if b = true then 1 else 0) + cnt3 l j
theorem one_of (x y : List Int) : cnt3 [Wd.lessI x y, Wd.lessI y x, decide (x = y)] 3 = 1 := by
  rcases Wd.less_total x y with h | h | h
  · have h2 := Wd.less_asymm h
    have h3 : x ≠ y := by rintro rfl; rw [Wd.less_irrefl] at h; cases h
    rw [h, h2, decide_eq_false h3]; rfl
  · have h2 := Wd.less_asymm h
    have h3 : x ≠ y := by rintro rfl; rw [Wd.less_irrefl] at h; cases h
    rw [h, h2, decide_eq_false h3]; rfl
  · subst h
    rw [Wd.less_irrefl, decide_eq_true rfl]; rfl

set_option maxRecDepth 100000 in
set_option maxHeartbeats 1000000 in
theorem order_walk (a b c : Option Addr) (ca cb cc : Nat) (x y z : List Int) (w : World) (hx : Cells w a (nums x)) (hy : Cells w b (nums y)) (hz : Cells w c (nums z)) (hxl : x.length ≤ 1048576) (hyl : y.length ≤ 1048576) (hzl : z.length ≤ 1048576) :
    Calls Try.prog 13 #[.slice a x.length ca, .slice b y.length cb, .slice c z.length cc] w fun e w' => e = .returned (.bool true) ∧ Below w.heap.size w w' := by
  have LXY := Lib.hid (wless_any a b ca cb x y w hx hy (by omega) (by omega))
  have LYX := Lib.hid (wless_any b a cb ca y x w hy hx (by omega) (by omega))
  have SXY := Lib.hid fun n => keepSame2_any a b ca cb x y (w.drewN n) (hx.below (below_drews (Below.refl _ _) n)) (hy.below (below_drews (Below.refl _ _) n)) (by omega) (by omega)
  have HX := Lib.hid hx
  have HY := Lib.hid hy
  have HZ := Lib.hid hz
  have HONE := Lib.hid (one_of x y)
  have LP := Lib.hid (Wd.less_append_left z x y)
  have LQ := Lib.hid (Wd.less_append_right z x y)
  clear hx hy hz
  go_enter Try.func13, Try.ntmps13
  have SX0 := Lib.hid (SXY.out 0)
  have e0 : w.drewN 0 = w := rfl
  rw [e0] at SX0
  go_upto_region 3 with (first
    | (go_at_call 61; first
      | (with_reducible refine LXY.out.mono ?_; rintro e w9 ⟨rfl, hw9⟩; obtain rfl := hw9.symm)
      | (with_reducible refine LYX.out.mono ?_; rintro e w9 ⟨rfl, hw9⟩; obtain rfl := hw9.symm))
    | (go_at_call 42; refine SX0.out.mono ?_; rintro e w1 ⟨rfl, n1, hw1⟩; have HB1 := Lib.hid (below_drews (Below.refl w.heap.size w) n1); rw [← hw1] at HB1; clear hw1))
  clear SX0 SXY LXY LYX e0
  have hq := heap_alloc_new w1 (.cells #[.bool (Wd.lessI x y), .bool (Wd.lessI y x), .bool (decide (x = y))] 4)
  have HB2 := Lib.hid (HB1.out.alloc HB1.out.size (.cells #[.bool (Wd.lessI x y), .bool (Wd.lessI y x), .bool (decide (x = y))] 4))
  generalize hp : Wd.lessI x y = p at *
  generalize Wd.lessI y x = q at *
  generalize decide (x = y) = r at *
  have HP := Lib.hid hp
  clear hp
  generalize w1.alloc (.cells #[.bool p, .bool q, .bool r] 4) = W2 at *
  have c0 := (blk_cell (i := 0) (u := .bool p) hq rfl).1
  have c1 := (blk_cell (i := 1) (u := .bool q) hq rfl).1
  have c2 := (blk_cell (i := 2) (u := .bool r) hq rfl).1
  have l2 := heap_lt hq
  clear hq
  go_loopw [7, 25] (fun v i wr => ∃ j : Nat, j ≤ 3 ∧ i = .int .i64 j ∧ v = .int .i64 (cnt3 [p, q, r] j) ∧ wr = W2) (fun _ i _ => 3 - (intOf i).toNat)
  case atStart => exact ⟨0, by omega, rfl, rfl, rfl⟩
  case round =>
    obtain ⟨j, hj, rfl, rfl, rfl⟩ := hrel
    rcases (show j = 0 ∨ j = 1 ∨ j = 2 ∨ j = 3 by omega) with rfl | rfl | rfl | rfl
    · cases p
      all_goals
        go_wp2
        exact ⟨⟨1, by omega, rfl, by first | rfl | (simp [cnt3, wrap64]), by first | trivial | rfl⟩, by simp [intOf]⟩
    · cases p <;> cases q
      all_goals
        go_wp2
        exact ⟨⟨2, by omega, rfl, by first | rfl | (simp [cnt3, wrap64]), by first | trivial | rfl⟩, by simp [intOf]⟩
    · cases p <;> cases q <;> cases r
      all_goals
        go_wp2
        exact ⟨⟨3, by omega, rfl, by first | rfl | (simp [cnt3, wrap64]), by first | trivial | rfl⟩, by simp [intOf]⟩
    · rw [HONE.out]
      clear c0 c1 c2
      have HCUR := HB2
      go_upto_region 10 with (first
        | (go_at_call 54; with_reducible refine (copyI_any c cc z _ (HZ.out.below HCUR.out) (by omega)).mono ?_; rintro e wn ⟨hbn, a3, c3, rfl, ho3⟩; have HLO := Lib.hid HCUR.out.size; have HCUR := Lib.hid (HCUR.out.trans (hbn.mono HCUR.out.size)); have HOW := Lib.hid ho3; have HSZ := Lib.hid hbn.size; have HBN := Lib.hid hbn; clear ho3 hbn)
        | (go_at_call 54; with_reducible refine (copyI_any a ca x _ (HX.out.below HCUR.out) (by omega)).mono ?_; rintro e wn ⟨hbn, a3, c3, rfl, ho3⟩; have HLO := Lib.hid HCUR.out.size; have HCUR := Lib.hid (HCUR.out.trans (hbn.mono HCUR.out.size)); have HOW := Lib.hid ho3; have HSZ := Lib.hid hbn.size; have HBN := Lib.hid hbn; clear ho3 hbn)
        | (go_at_call 54; with_reducible refine (copyI_any b cb y _ (HY.out.below HCUR.out) (by omega)).mono ?_; rintro e wn ⟨hbn, a3, c3, rfl, ho3⟩; have HLO := Lib.hid HCUR.out.size; have HCUR := Lib.hid (HCUR.out.trans (hbn.mono HCUR.out.size)); have HOW := Lib.hid ho3; have HSZ := Lib.hid hbn.size; have HBN := Lib.hid hbn; clear ho3 hbn)
        | (at_builtin; with_reducible refine wpList_app rfl (.tmp 34) (.tmp 35) rfl _ _ _ _ z rfl HOW.out HSZ.out a x ca rfl (HX.out.below HCUR.out) (by omega) ?_; intro va4 vc4 w4 ho4 hg4; have HST4 := Lib.hid (HBN.out.grown hg4 HBN.out.size (fun k hk => (own_block HOW.out hk).1)); have G1 := Lib.hid (fun W (hW : Below w4.heap.size w4 W) => (own_cells ho4).1.below hW); have HCUR := Lib.hid (HCUR.out.grown hg4 HCUR.out.size (fun k hk => Nat.le_trans HLO.out (own_block HOW.out hk).1)); clear ho4 hg4)
        | (at_builtin; with_reducible refine wpList_app rfl (.tmp 38) (.tmp 39) rfl _ _ _ _ z rfl HOW.out HSZ.out b y cb rfl (HY.out.below HCUR.out) (by omega) ?_; intro va5 vc5 w5 ho4 hg4; have HST5 := Lib.hid (HBN.out.grown hg4 HBN.out.size (fun k hk => (own_block HOW.out hk).1)); have G2 := Lib.hid (fun W (hW : Below w5.heap.size w5 W) => (own_cells ho4).1.below hW); have HCUR := Lib.hid (HCUR.out.grown hg4 HCUR.out.size (fun k hk => Nat.le_trans HLO.out (own_block HOW.out hk).1)); clear ho4 hg4)
        | (at_builtin; with_reducible refine wpList_app rfl (.tmp 42) (.tmp 43) rfl _ _ _ _ x rfl HOW.out HSZ.out c z cc rfl (HZ.out.below HCUR.out) (by omega) ?_; intro va6 vc6 w6 ho4 hg4; have HST6 := Lib.hid (HBN.out.grown hg4 HBN.out.size (fun k hk => (own_block HOW.out hk).1)); have G3 := Lib.hid (fun W (hW : Below w6.heap.size w6 W) => (own_cells ho4).1.below hW); have HCUR := Lib.hid (HCUR.out.grown hg4 HCUR.out.size (fun k hk => Nat.le_trans HLO.out (own_block HOW.out hk).1)); clear ho4 hg4)
        | (at_builtin; with_reducible refine wpList_app rfl (.tmp 46) (.tmp 47) rfl _ _ _ _ y rfl HOW.out HSZ.out c z cc rfl (HZ.out.below HCUR.out) (by omega) ?_; intro va7 vc7 w7 ho4 hg4; have HST7 := Lib.hid (HBN.out.grown hg4 HBN.out.size (fun k hk => (own_block HOW.out hk).1)); have G4 := Lib.hid (fun W (hW : Below w7.heap.size w7 W) => (own_cells ho4).1.below hW); have HCUR := Lib.hid (HCUR.out.grown hg4 HCUR.out.size (fun k hk => Nat.le_trans HLO.out (own_block HOW.out hk).1)); clear ho4 hg4))
      have b67 := HST7.out
      have b57 := HST6.out.trans (b67.mono HST6.out.size)
      have b47 := HST5.out.trans (b57.mono HST5.out.size)
      have L1 := wless_any va4 va5 vc4 vc5 (z ++ x) (z ++ y) w7 (G1.out w7 b47) (G2.out w7 b57) (by simp; omega) (by simp; omega)
      have L2 := wless_any va6 va7 vc6 vc7 (x ++ z) (y ++ z) w7 (G3.out w7 b67) (G4.out w7 (Below.refl _ _)) (by simp; omega) (by simp; omega)
      rw [LP.out, List.length_append, List.length_append] at L1
      rw [LQ.out, List.length_append, List.length_append] at L2
      have L3 := wless_any a b ca cb x y w7 (HX.out.below HCUR.out) (HY.out.below HCUR.out) (by omega) (by omega)
      rw [HP.out] at L3
      have L4 := wless_any b c cb cc y z w7 (HY.out.below HCUR.out) (HZ.out.below HCUR.out) (by omega) (by omega)
      have L5 := wless_any a c ca cc x z w7 (HX.out.below HCUR.out) (HZ.out.below HCUR.out) (by omega) (by omega)
      have L1 := Lib.hid L1
      have L2 := Lib.hid L2
      have L3 := Lib.hid L3
      have htr : p = true → Wd.lessI y z = true → Wd.lessI x z = true := fun h1 h2 => Wd.less_trans (HP.out.trans h1) h2
      generalize Wd.lessI y z = q2 at *
      generalize Wd.lessI x z = r2 at *
      have L4 := Lib.hid L4
      have L5 := Lib.hid L5
      have HWK := Lib.hid (wakes7_any w7)
      have HCU := HCUR
      clear b67 b57 b47 G1 G2 G3 G4 HST4 HST5 HST6 HST7 LP LQ HP HX HY HZ HB1 HB2 HONE HLO HOW HSZ HBN HCUR
      have key : (p = false) ∨ (p = true ∧ q2 = false) ∨ (p = true ∧ q2 = true ∧ r2 = true) := by
        cases p
        · exact .inl rfl
        · cases q2
          · exact .inr (.inl ⟨rfl, rfl⟩)
          · exact .inr (.inr ⟨rfl, rfl, htr rfl rfl⟩)
      clear htr
      rcases key with rfl | ⟨rfl, rfl⟩ | ⟨rfl, rfl, rfl⟩
      all_goals
        go_wp2_with (first
          | (go_at_call 61; first
            | (with_reducible refine L1.out.mono ?_; rintro e w9 ⟨rfl, hw9⟩; obtain rfl := hw9.symm)
            | (with_reducible refine L2.out.mono ?_; rintro e w9 ⟨rfl, hw9⟩; obtain rfl := hw9.symm)
            | (with_reducible refine L3.out.mono ?_; rintro e w9 ⟨rfl, hw9⟩; obtain rfl := hw9.symm)
            | (with_reducible refine L4.out.mono ?_; rintro e w9 ⟨rfl, hw9⟩; obtain rfl := hw9.symm)
            | (with_reducible refine L5.out.mono ?_; rintro e w9 ⟨rfl, hw9⟩; obtain rfl := hw9.symm))
          | (go_at_call 62; refine HWK.out.mono ?_; rintro e w9 ⟨rfl, hb9⟩))
        go_ret
        exact ⟨rfl, HCU.out.trans (hb9.mono HCU.out.size)⟩

end Go.Proofs.Ytcopadchjobnaaa
