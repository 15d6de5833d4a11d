/- ReachTells: walked. -/
import Derived.Test.YtcopadchjobnaaaPlayGX
import Derived.Test.YtcopadchjobnaaaRTrim
import Derived.Test.YtcopadchjobnaaaNoG
import Derived.Test.YtcopadchjobnaaaRFormF
import Derived.Deep.Cut
import Derived.Deep.RegionHeld3
set_option linter.unusedVariables false
namespace Go.Proofs.Ytcopadchjobnaaa
open Go.RowKit
open Doc

theorem check_doc (v : Value) (g : Gr) (w : World) (hg : GramAt w v g) (hm : MidG g) :
    Calls Try.prog 18 #[v] w fun e w' => e = .returned (.bool (okB g)) ∧ Below w.heap.size w w' :=
  check_any rname_any v g w hg (by have := hm.t.1; omega) (by have := hm.n.1; omega) (by have := hm.p.1; omega) (fun p hp => by have := (hm.p.2 p hp).2.1; omega) (fun x hx => by
    rcases List.mem_append.1 hx with h | h
    · have := hm.t.2 x h; omega
    · have := hm.n.2 x h; omega)
theorem is_low {g : Gr} {P : Int → Prop} {S : Nat} (h : SetIs S P) (hP : ∀ x, P x → x < 100 + (g.nons.length : Int)) (hn : g.nons.length ≤ 64) : asN S g.nons.length = S :=
  asN_self hn fun i hi => by
    have := (h.2 i).1 hi
    have := hP _ this.2
    omega
theorem fru_low {g : Gr} (hc : CheckG g) : ∀ x, Fru g x → x < 100 + (g.nons.length : Int) := fun x h => by
  cases h with
  | mk p hp _ => exact (hc.pv p hp).1.2
theorem nul_low {g : Gr} (hc : CheckG g) : ∀ x, Nul g x → x < 100 + (g.nons.length : Int) := fun x h => fru_low hc x (nul_fru h)
theorem rea_low {g : Gr} (hc : CheckG g) : ∀ x, Rea g x → x < 100 + (g.nons.length : Int) := fun x h => by
  cases h with
  | start => have := hc.n1; omega
  | step p s hp _ hs h100 =>
    have := (hc.pv p hp).2.2 _ hs
    have h8 := hc.t8
    unfold symOk at this; omega
theorem trim_some {g : Gr} {F : Nat} (hc : CheckG g) (hF : SetIs F (Fru g)) (h : shas F 0 = true) : trimF F g.prods 0 ≠ [] := by
  have h1 := (has_zero hF).1 h
  generalize hx : (100 : Int) = x at h1
  cases h1 with
  | mk p hp ha =>
    intro he
    have hb : bearI p.2 F = true := List.all_eq_true.2 fun s hs => by
      rw [Bool.or_eq_true, decide_eq_true_eq]
      by_cases h100 : s < 100
      · exact .inl h100
      · have := (hc.pv p hp).2.2 s hs
        have h8 := hc.n8
        have h9 := hc.t8
        unfold symOk at this
        exact .inr ((hF.has s).2 ⟨by omega, by omega, ha s hs (by omega)⟩)
    obtain ⟨k, hk⟩ := List.getElem?_of_mem hp
    have := (trimF_mem F g.prods 0 (k : Int)).2 ⟨k, p, hk, hb, by simp⟩
    rw [he] at this
    cases this

set_option maxRecDepth 100000 in
set_option maxHeartbeats 16000000 in
theorem reachTells_walk (x : RawX) (w : World) (hx : RawAt w x) (hwd : RawWide x) : Calls Try.prog 5 #[x.v] w fun e w' => e = .returned (.bool true) ∧ Below w.heap.size w w' := by
  have hGR := Lib.hid (fun W h => grammar_any x W h hwd)
  have HX := Lib.hid hx
  clear hx hwd
  obtain ⟨xp, xt, xn, xh, rows, xa, xc, word⟩ := x
  unfold RawX.v at *
  simp only at *
  have hb0 : Below w.heap.size w (w.alloc (.cells #[.int .i64 xp, .int .i64 xt, .int .i64 xn, .int .i64 xh, .slice xa rows.length xc, .string word] 24)) := (Below.refl _ _).alloc (Nat.le_refl _) _
  have HA1 := Lib.hid (hGR.out _ (HX.out.below hb0))
  have HB0 := Lib.hid hb0
  have HOF : Hid (∀ W : World, Calls Try.prog 33 #[.slice none 0 0] W fun e w' => e = .returned (.int .u64 0) ∧ w' = W) := Lib.hid fun W => of_any none 0 0 [] W ⟨rfl, by omega, .inl rfl⟩
  clear hGR hb0
  go_enter Try.func5, Try.ntmps5
  go_upto_region 2 with (go_at_call 15; refine HA1.out.mono ?_; rintro e w1 ⟨hb1, at_, an, ap, n1, n2, n3, ct, cn, cp, g, rfl, hg1, hm⟩)
  have hbA := (HB0.out.trans (hb1.mono HB0.out.size)).alloc (Nat.le_trans HB0.out.size hb1.size) (.cells #[.slice at_ n1 ct, .slice an n2 cn, .slice ap n3 cp] 28)
  have hbS : Below w1.heap.size w1 (w1.alloc (.cells #[.slice at_ n1 ct, .slice an n2 cn, .slice ap n3 cp] 28)) := (Below.refl _ _).alloc (Nat.le_refl _) _
  have q0 := heap_alloc_new w1 (.cells #[.slice at_ n1 ct, .slice an n2 cn, .slice ap n3 cp] 28)
  have HG := Lib.hid (hg1.below hbS)
  have HBA := Lib.hid hbA
  have HQ0 := Lib.hid q0
  have HM := Lib.hid hm
  clear hb1 hg1 hbA hbS q0 HA1 HX HB0 hm
  generalize w1.alloc (.cells #[.slice at_ n1 ct, .slice an n2 cn, .slice ap n3 cp] 28) = S at *
  generalize w1.heap.size = B1 at *
  have l1 := heap_lt HQ0.out
  have hSK : ∀ W, Below S.heap.size S W → (W.cell? ⟨B1, 0, none⟩ = some (.slice at_ n1 ct) ∧ W.cell? ⟨B1, 1, none⟩ = some (.slice an n2 cn) ∧ W.cell? ⟨B1, 2, none⟩ = some (.slice ap n3 cp)) ∧ B1 < W.heap.size := fun W hb => by
    have q := (hb.block B1 l1).trans HQ0.out
    exact ⟨⟨(blk_cell q rfl).1, (blk_cell q rfl).1, (blk_cell q rfl).1⟩, heap_lt q⟩
  have HSK := Lib.hid hSK
  have HDC := Lib.hid fun W (hW : Below S.heap.size S W) => check_doc _ g W (HG.out.below hW) HM.out
  have HWK := Lib.hid fun W => wakes5_any W
  obtain ⟨⟨c0, c1, c2⟩, l1'⟩ := hSK S (Below.refl _ _)
  clear hSK
  by_cases hc : CheckG g
  · have HCK := Lib.hid hc
    have hok := (okB_iff g).2 hc
    rw [hok] at HDC
    have HTR := Lib.hid (trim_one _ g S HG.out hc)
    have hp24 := hc.p24
    have hn8 := hc.n8
    have HN0 := Lib.hid (rnul_is hc)
    have HF0 := Lib.hid (rfru_is hc)
    have HR0 := Lib.hid (rrea_is hc)
    have HAN : Hid (asN (iterG (gsF vanI g.prods) 0 g.nons.length) g.nons.length = iterG (gsF vanI g.prods) 0 g.nons.length) := Lib.hid (is_low (rnul_is hc) (nul_low hc) (by omega))
    have HAF : Hid (asN (iterG (gsF bearI g.prods) 0 g.nons.length) g.nons.length = iterG (gsF bearI g.prods) 0 g.nons.length) := Lib.hid (is_low (rfru_is hc) (fru_low hc) (by omega))
    have HAR : Hid (asN (iterG (gsR g.prods) 1 g.nons.length) g.nons.length = iterG (gsR g.prods) 1 g.nons.length) := Lib.hid (is_low (rrea_is hc) (rea_low hc) (by omega))
    have HRT := Lib.hid fun W (hW : Below S.heap.size S W) => rtrim_any _ g W (HG.out.below hW) hc
    have HRN := Lib.hid fun W (hW : Below S.heap.size S W) => rnul_any _ g W (HG.out.below hW) hc
    have HRF := Lib.hid fun W (hW : Below S.heap.size S W) => rfru_any _ g W (HG.out.below hW) hc
    have HRR := Lib.hid fun W (hW : Below S.heap.size S W) => rrea_any _ g W (HG.out.below hW) hc
    have HNN := Lib.hid fun W (hW : Below S.heap.size S W) => (nullable_any _ g W (HG.out.below hW) hc).mono fun e w' ⟨⟨r, he, hr⟩, hb⟩ => (⟨he.trans (by rw [hr.uniq (rnul_is hc)]), hb⟩ : e = Ending.returned (.int .u64 (iterG (gsF vanI g.prods) 0 g.nons.length : Nat)) ∧ Below W.heap.size W w')
    have HFF := Lib.hid fun W (hW : Below S.heap.size S W) => (fruitful_any _ g W (HG.out.below hW) hc).mono fun e w' ⟨⟨r, he, hr⟩, hb⟩ => (⟨he.trans (by rw [hr.uniq (rfru_is hc)]), hb⟩ : e = Ending.returned (.int .u64 (iterG (gsF bearI g.prods) 0 g.nons.length : Nat)) ∧ Below W.heap.size W w')
    have HRA := Lib.hid fun W (hW : Below S.heap.size S W) => (reached_any _ g W (HG.out.below hW) hc).mono fun e w' ⟨⟨r, he, hr⟩, hb⟩ => (⟨he.trans (by rw [hr.uniq (rrea_is hc)]), hb⟩ : e = Ending.returned (.int .u64 (iterG (gsR g.prods) 1 g.nons.length : Nat)) ∧ Below W.heap.size W w')
    have HTW : Hid (∀ F l er, SetIs F (Fru g) → TrimOf g F l er → l = rtrimL g ∧ ((er = 0 ∧ rtrimL g ≠ []) ∨ (er = 6 ∧ rtrimL g = []))) := Lib.hid fun F l er hF ht => by
      obtain rfl := hF.uniq (rfru_is hc)
      unfold rtrimL
      rw [show (iterG (gsF bearI g.prods) 0 g.nons.length).testBit 0 = shas (iterG (gsF bearI g.prods) 0 g.nons.length) 0 from (shas_bit _ 0 (by omega)).symm]
      rcases ht with ⟨h1, h2, h3⟩ | ⟨h1, h2, h3⟩
      · rw [h1, if_pos rfl]
        exact ⟨h3, .inl ⟨h2, trim_some hc hF h1⟩⟩
      · rw [h1, if_neg (by decide)]
        exact ⟨h3, .inr ⟨h2, rfl⟩⟩
    clear hc hok
    generalize iterG (gsF vanI g.prods) 0 g.nons.length = N0 at *
    generalize iterG (gsF bearI g.prods) 0 g.nons.length = F0 at *
    generalize iterG (gsR g.prods) 1 g.nons.length = R0 at *
    generalize rtrimL g = T at *
    have HAS : Hid (∀ b S0 W, asN S0 g.nons.length = S0 → BsAt W b g.nons.length S0 → Calls Try.prog 38 #[.slice (some ⟨b, 0, none⟩) g.nons.length g.nons.length] W fun e w' => e = .returned (.int .u64 S0) ∧ w' = W) := Lib.hid fun b S0 W h hB => (as_any b _ S0 W hB (by omega)).mono fun e w' ⟨he, hw⟩ => ⟨he.trans (by rw [h]), hw⟩
    go_upto_region 3 with (go_at_call 31; refine HTR.out.mono ?_; rintro e w2 ⟨hb2, F, ta, tc, l, er, rfl, hF, hto, htl, hll⟩)
    obtain ⟨rfl, hcase⟩ := HTW.out F l er hF hto
    obtain ⟨⟨c0, c1, c2⟩, l1'⟩ := HSK.out _ hb2
    have HTL := Lib.hid htl
    have HB2 := Lib.hid hb2
    clear hF hto htl HTW HTR
    go_upto_region 5 with (go_at_call 18; refine (HDC.out _ HB2.out).mono ?_; rintro e w3 ⟨rfl, hb3⟩)
    have hb23 := HB2.out.trans (hb3.mono HB2.out.size)
    obtain ⟨⟨d0, d1, d2⟩, l2'⟩ := HSK.out _ hb23
    have HB3 := Lib.hid hb23
    have HTL3 := Lib.hid (HTL.out.below hb3)
    clear HTL hb23 hb3 HDC c0 c1 c2 l1'
    go_upto_region 6 with (go_at_call 37; refine (HRT.out _ HB3.out).mono ?_; rintro e w4 ⟨hb4, wa, wc, rfl, hwo⟩)
    have hb24 := HB3.out.trans (hb4.mono HB3.out.size)
    have HB4 := Lib.hid hb24
    have HKS := Lib.hid fun W (hW : Below w4.heap.size w4 W) => (keepSame_any ta wa tc wc _ _ W ((HTL3.out.below hb4).below hW) ((own_cells hwo).1.below hW) hll hll).mono fun e w' ⟨he, n, hw⟩ => (⟨he.trans (by rw [decide_eq_true rfl]), by rw [hw]; exact below_drews (Below.refl _ _) _⟩   : e = Ending.returned (.bool true) ∧ Below W.heap.size W w')
    clear hwo HTL3 d0 d1 d2 l2' HRT
    have HSK4 : Hid (∀ W W' : World, Hid (Below w4.heap.size w4 W) → Below W.heap.size W W' → (W'.cell? ⟨B1, 0, none⟩ = some (.slice at_ n1 ct) ∧ W'.cell? ⟨B1, 1, none⟩ = some (.slice an n2 cn) ∧ W'.cell? ⟨B1, 2, none⟩ = some (.slice ap n3 cp)) ∧ Hid (Below w4.heap.size w4 W')) := Lib.hid fun W W' h k => by
      have hb := h.out.trans (k.mono h.out.size)
      exact ⟨(HSK.out W' (HB4.out.trans (hb.mono HB4.out.size))).1, Lib.hid hb⟩
    have HB44 : Hid (Below w4.heap.size w4 w4) := Lib.hid (Below.refl _ _)
    have HTO : Hid (∀ W, Hid (Below w4.heap.size w4 W) → Below S.heap.size S W) := Lib.hid fun W h => HB4.out.trans (h.out.mono HB4.out.size)
    clear hb4 hb24
    rcases hcase with ⟨rfl, hT⟩ | ⟨rfl, hT⟩
    · have hTp : 0 < l.length := List.length_pos_iff.2 hT
      have hTi : (0 : Int) < l.length := by omega
      have hTq : ((l.length : Int) == 0) = false := by simp; omega
      clear hT
      go_upto_region 8 with fail
      go_region_held3 (fun w' => (w'.cell? ⟨B1, 0, none⟩ = some (.slice at_ n1 ct) ∧ w'.cell? ⟨B1, 1, none⟩ = some (.slice an n2 cn) ∧ w'.cell? ⟨B1, 2, none⟩ = some (.slice ap n3 cp)) ∧ Hid (Below w4.heap.size w4 w'))
        (first | (exact HSK4.out _ _ HB44 (Below.refl _ _).drew) | (exact HSK4.out _ _ (And.right (show _ ∧ Hid (Below w4.heap.size w4 _) by assumption)) (by assumption)) | go_keep)
        (first
          | (go_at_call 32; with_reducible refine (HNN.out _ (HTO.out _ (And.right (show _ ∧ Hid (Below w4.heap.size w4 _) by assumption)))).mono ?_; rintro e w5 ⟨rfl, hb5⟩)
          | (go_at_call 34; with_reducible refine (HFF.out _ (HTO.out _ (And.right (show _ ∧ Hid (Below w4.heap.size w4 _) by assumption)))).mono ?_; rintro e w5 ⟨rfl, hb5⟩)
          | (go_at_call 35; with_reducible refine (HRA.out _ (HTO.out _ (And.right (show _ ∧ Hid (Below w4.heap.size w4 _) by assumption)))).mono ?_; rintro e w5 ⟨rfl, hb5⟩)
          | (go_at_call 39; with_reducible refine (HRN.out _ (HTO.out _ (And.right (show _ ∧ Hid (Below w4.heap.size w4 _) by assumption)))).mono ?_; rintro e w5 ⟨b, rfl, hbs, hb5, _⟩)
          | (go_at_call 40; with_reducible refine (HRF.out _ (HTO.out _ (And.right (show _ ∧ Hid (Below w4.heap.size w4 _) by assumption)))).mono ?_; rintro e w5 ⟨b, rfl, hbs, hb5, _⟩)
          | (go_at_call 41; with_reducible refine (HRR.out _ (HTO.out _ (And.right (show _ ∧ Hid (Below w4.heap.size w4 _) by assumption)))).mono ?_; rintro e w5 ⟨b, rfl, hbs, hb5, _⟩)
          | (go_at_call 38; first
              | (refine (HAS.out _ N0 _ HAN.out (by assumption)).mono ?_; rintro e w5 ⟨rfl, rfl⟩)
              | (refine (HAS.out _ F0 _ HAF.out (by assumption)).mono ?_; rintro e w5 ⟨rfl, rfl⟩)
              | (refine (HAS.out _ R0 _ HAR.out (by assumption)).mono ?_; rintro e w5 ⟨rfl, rfl⟩))
          | (go_at_call 42; with_reducible refine (HKS.out _ (And.right (show _ ∧ Hid (Below w4.heap.size w4 _) by assumption)).out).mono ?_; rintro e w5 ⟨rfl, hb5⟩)
          | (go_at_call 36; refine (HWK.out _).mono ?_; rintro e w5 ⟨rfl, hb5⟩))
      all_goals
        go_wp2
        go_ret
        exact ⟨rfl, HBA.out.trans ((HTO.out _ (And.right (show _ ∧ Hid (Below w4.heap.size w4 _) by assumption))).mono HBA.out.size)⟩
    · have hTp : l.length = 0 := by rw [hT]; rfl
      have hTi : ¬ (0 : Int) < l.length := by omega
      have hTq : ((l.length : Int) == 0) = true := by simp; omega
      clear hT hTp
      go_upto_region 8 with fail
      go_region_held3 (fun w' => (w'.cell? ⟨B1, 0, none⟩ = some (.slice at_ n1 ct) ∧ w'.cell? ⟨B1, 1, none⟩ = some (.slice an n2 cn) ∧ w'.cell? ⟨B1, 2, none⟩ = some (.slice ap n3 cp)) ∧ Hid (Below w4.heap.size w4 w'))
        (first | (exact HSK4.out _ _ HB44 (Below.refl _ _).drew) | (exact HSK4.out _ _ (And.right (show _ ∧ Hid (Below w4.heap.size w4 _) by assumption)) (by assumption)) | go_keep)
        (first
          | (go_at_call 32; with_reducible refine (HNN.out _ (HTO.out _ (And.right (show _ ∧ Hid (Below w4.heap.size w4 _) by assumption)))).mono ?_; rintro e w5 ⟨rfl, hb5⟩)
          | (go_at_call 34; with_reducible refine (HFF.out _ (HTO.out _ (And.right (show _ ∧ Hid (Below w4.heap.size w4 _) by assumption)))).mono ?_; rintro e w5 ⟨rfl, hb5⟩)
          | (go_at_call 35; with_reducible refine (HRA.out _ (HTO.out _ (And.right (show _ ∧ Hid (Below w4.heap.size w4 _) by assumption)))).mono ?_; rintro e w5 ⟨rfl, hb5⟩)
          | (go_at_call 39; with_reducible refine (HRN.out _ (HTO.out _ (And.right (show _ ∧ Hid (Below w4.heap.size w4 _) by assumption)))).mono ?_; rintro e w5 ⟨b, rfl, hbs, hb5, _⟩)
          | (go_at_call 40; with_reducible refine (HRF.out _ (HTO.out _ (And.right (show _ ∧ Hid (Below w4.heap.size w4 _) by assumption)))).mono ?_; rintro e w5 ⟨b, rfl, hbs, hb5, _⟩)
          | (go_at_call 41; with_reducible refine (HRR.out _ (HTO.out _ (And.right (show _ ∧ Hid (Below w4.heap.size w4 _) by assumption)))).mono ?_; rintro e w5 ⟨b, rfl, hbs, hb5, _⟩)
          | (go_at_call 38; first
              | (refine (HAS.out _ N0 _ HAN.out (by assumption)).mono ?_; rintro e w5 ⟨rfl, rfl⟩)
              | (refine (HAS.out _ F0 _ HAF.out (by assumption)).mono ?_; rintro e w5 ⟨rfl, rfl⟩)
              | (refine (HAS.out _ R0 _ HAR.out (by assumption)).mono ?_; rintro e w5 ⟨rfl, rfl⟩))
          | (go_at_call 42; with_reducible refine (HKS.out _ (And.right (show _ ∧ Hid (Below w4.heap.size w4 _) by assumption)).out).mono ?_; rintro e w5 ⟨rfl, hb5⟩)
          | (go_at_call 36; refine (HWK.out _).mono ?_; rintro e w5 ⟨rfl, hb5⟩))
      all_goals
        go_wp2
        go_ret
        exact ⟨rfl, HBA.out.trans ((HTO.out _ (And.right (show _ ∧ Hid (Below w4.heap.size w4 _) by assumption))).mono HBA.out.size)⟩
  · have hno : okB g = false := by rw [Bool.eq_false_iff]; exact fun h => hc ((okB_iff g).1 h)
    rw [hno] at HDC
    have HTR := Lib.hid (trim_no _ g S HG.out HM.out hc)
    have HNN := Lib.hid fun W (hW : Below S.heap.size S W) => nullable_no _ g W (HG.out.below hW) HM.out hc
    have HFF := Lib.hid fun W (hW : Below S.heap.size S W) => fruitful_no _ g W (HG.out.below hW) HM.out hc
    have HRA := Lib.hid fun W (hW : Below S.heap.size S W) => reached_no _ g W (HG.out.below hW) HM.out hc
    clear hc hno HG HM HQ0
    go_wp2_with (first
      | (go_at_call 31; refine HTR.out.mono ?_; rintro e w2 ⟨rfl, hb2⟩; obtain ⟨⟨c0, c1, c2⟩, l2'⟩ := HSK.out _ hb2)
      | (go_at_call 18; refine (HDC.out _ hb2).mono ?_; rintro e w3 ⟨rfl, hk3⟩; have hb3 := hb2.trans (hk3.mono hb2.size); obtain ⟨⟨c0, c1, c2⟩, l2'⟩ := HSK.out _ hb3)
      | (go_at_call 32; refine (HNN.out _ hb3).mono ?_; rintro e w4 ⟨rfl, hk4⟩; have hb4 := hb3.trans (hk4.mono hb3.size); obtain ⟨⟨c0, c1, c2⟩, l2'⟩ := HSK.out _ hb4)
      | (go_at_call 33; refine (HOF.out _).mono ?_; rintro e w9 ⟨rfl, rfl⟩)
      | (go_at_call 34; refine (HFF.out _ hb4).mono ?_; rintro e w5 ⟨rfl, hk5⟩; have hb5 := hb4.trans (hk5.mono hb4.size); obtain ⟨⟨c0, c1, c2⟩, l2'⟩ := HSK.out _ hb5)
      | (go_at_call 35; refine (HRA.out _ hb5).mono ?_; rintro e w6 ⟨rfl, hk6⟩; have hb6 := hb5.trans (hk6.mono hb5.size); obtain ⟨⟨c0, c1, c2⟩, l2'⟩ := HSK.out _ hb6)
      | (go_at_call 36; refine (HWK.out _).mono ?_; rintro e w7 ⟨rfl, hk7⟩; have hb7 := hb6.trans (hk7.mono hb6.size)))
    go_ret
    exact ⟨rfl, HBA.out.trans (hb7.mono HBA.out.size)⟩
end Go.Proofs.Ytcopadchjobnaaa
