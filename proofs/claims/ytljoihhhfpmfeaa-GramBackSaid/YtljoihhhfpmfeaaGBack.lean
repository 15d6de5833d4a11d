/- GramBack: walked. -/
import Derived.Test.YtljoihhhfpmfeaaPlayGX
import Derived.Test.YtljoihhhfpmfeaaPrintG
import Derived.Test.YtljoihhhfpmfeaaGChkF
import Derived.Test.YtljoihhhfpmfeaaRowC
import Derived.Test.YtljoihhhfpmfeaaText4
set_option linter.unusedVariables false
namespace Go.Proofs.Ytljoihhhfpmfeaa
open Go.RowKit
open Doc

theorem row_below {w w' : World} {a : Option Addr} {len cap : Nat} {zs : List Int} (h : IsRow .i64 w a len cap zs) (hb : Below w.heap.size w w') : IsRow .i64 w' a len cap zs := by
  rcases h with h | ⟨x, h1, h2, h3, h4, hc, h6⟩
  · exact .inl h
  · refine .inr ⟨x, h1, h2, h3, h4, fun i hi => ?_, h6⟩
    have hci := hc i hi
    exact (hb.cell (World.block_lt_of_cell? w _ hci)).trans hci
theorem write_lenX {g : Gr} (h : CheckG g) : (writeT g).length ≤ 100000 := by
  have h1 := wr_len h g.nons 0 h.nk
  have h2 := h.n8
  unfold writeT
  omega

theorem mid_fits {g : Gr} (h : MidG g) : Fits g := ⟨by have := h.t.1; omega, by have := h.n.1; omega, by have := h.p.1; omega, fun p hp => by have := (h.p.2 p hp).2.1; omega⟩
theorem mid_small {g : Gr} (h : MidG g) : SmallG g := fun p hp => ⟨(h.p.2 p hp).1, (h.p.2 p hp).2.2⟩
theorem mid_t {g : Gr} (h : MidG g) : ∀ x ∈ g.terms, x.length ≤ 1000000 := fun x hx => by have := h.t.2 x hx; omega
theorem mid_n {g : Gr} (h : MidG g) : ∀ x ∈ g.nons, x.length ≤ 1000000 := fun x hx => by have := h.n.2 x hx; omega
theorem good_tn {g : Gr} (h : CheckG g) : (∀ x ∈ g.terms, x.length ≤ 1000000) ∧ (∀ x ∈ g.nons, x.length ≤ 1000000) :=
  ⟨fun x hx => by have := check_terms h x hx; have := kind_len (x := x) (by rw [h.tk x hx]; decide); omega, fun x hx => by have := kind_len (x := x) (by rw [h.nk x hx]; decide); omega⟩

/-- Parse, both ways out in one form. -/
theorem parse_both (s : ByteArray) (w : World) (hs : s.size ≤ 1000000) :
    Calls Try.prog 29 #[.string s] w fun e w' => Below w.heap.size w w' ∧ ∃ (a1 a2 a3 : Option Addr) (n1 n2 n3 c1 c2 c3 : Nat) (l c x : Int) (g : Gr), e = .returned (.tuple #[.agg #[.slice a1 n1 c1, .slice a2 n2 c2, .slice a3 n3 c3], .int .i64 l, .int .i64 c, .int .i64 x]) ∧
      GramAt w' (.agg #[.slice a1 n1 c1, .slice a2 n2 c2, .slice a3 n3 c3]) g ∧ ((x = 0 ∧ parse s.data.toList = .ok g) ∨ (x ≠ 0 ∧ g = ⟨[], [], []⟩)) := by
  cases hp : parse s.data.toList with
  | ok g =>
    refine (parse_ok s g w hs hp).mono fun e w' ⟨v, he, hb, hg⟩ => ⟨hb, ?_⟩
    obtain ⟨a1, a2, a3, c1, c2, c3, rfl⟩ := gram_form hg.at_
    exact ⟨a1, a2, a3, _, _, _, c1, c2, c3, 0, 0, 0, g, he, hg.at_, .inl ⟨rfl, rfl⟩⟩
  | bad l c x =>
    have hx := parse_err hp
    refine (parse_no s l c x w hs hp).mono fun e w' ⟨he, hb⟩ => ⟨hb, ?_⟩
    exact ⟨none, none, none, 0, 0, 0, 0, 0, 0, l, c, x, ⟨[], [], []⟩, he, gram_nil _, .inr ⟨by omega, rfl⟩⟩

theorem first_lin : LinIs [32, 32, 35, 32, 102, 105, 114, 115, 116] [] := by
  intro line col hc
  refine lin_blank (lin_blank ?_) line col hc
  intro line col hc
  rw [lin_cons]
  have e : piece 35 [32, 102, 105, 114, 115, 116] = (9, 7) := rfl
  rw [e]
  simp [lin_nil]

/-- A text that is read, printed, and read again behind a remark. -/
theorem print_back {t : List UInt8} {g : Gr} (h : parse t = .ok g) : CheckG g ∧ ChkP g ∧ printS g = writeT g ∧ printE g = 0 ∧ parse (writeT g) = .ok g ∧ parse ([32, 32, 35, 32, 102, 105, 114, 115, 116, 10] ++ writeT g) = .ok g := by
  have hg := read_good _ _ h
  have hc := good_check g hg
  have hp := (chk_iff g).2 hc
  have hw : parse (writeT g) = .ok g := by rw [write_text hc]; exact good_text g hg
  exact ⟨hc, hp, if_pos ⟨hp, hw⟩, if_pos ⟨hp, hw⟩, hw, parse_ahead [32, 32, 35, 32, 102, 105, 114, 115, 116] (writeT g) g (by decide) first_lin hw⟩


set_option maxRecDepth 100000 in
set_option maxHeartbeats 8000000 in
theorem gramBack_walk (x : RawX) (s : ByteArray) (a : Option Addr) (len cap : Nat) (zs : List Int) (w : World) (hx : RawAt w x) (hwd : RawWide x) (hr : IsRow .i64 w a len cap zs) :
    Calls Try.prog 4 #[x.v, .string s, .slice a len cap] w fun e w' => e = .returned (.bool true) ∧ Below w.heap.size w w' := by
  have hGR := Lib.hid (fun W h => grammar_any x W h hwd)
  have HX := Lib.hid hx
  have HTX := Lib.hid fun W (hW : Below w.heap.size w W) => text4_any s false a len cap zs W (row_below hr hW)
  have HWK := Lib.hid fun W => wakes_any W
  clear hx hwd hr
  obtain ⟨xp, xt, xn, xh, rows, xa, xc, word⟩ := x
  unfold RawX.v at *
  simp only at *
  have hb0 : Below w.heap.size w (w.alloc (.cells #[.int .i64 xp, .int .i64 xt, .int .i64 xn, .int .i64 xh, .slice xa rows.length xc, .string word] 24)) := (Below.refl _ _).alloc (Nat.le_refl _) _
  have HA1 := Lib.hid (hGR.out _ (HX.out.below hb0))
  have HB0 := Lib.hid hb0
  clear hGR hb0
  go_enter Try.func4, Try.ntmps4
  go_upto_region 2 with (go_at_call 15; refine HA1.out.mono ?_; rintro e w1 ⟨hb1, at_, an, ap, n1, n2, n3, ct, cn, cp, g, rfl, hg1, hm⟩)
  have hbA := (HB0.out.trans (hb1.mono HB0.out.size)).alloc (Nat.le_trans HB0.out.size hb1.size) (.cells #[.slice at_ n1 ct, .slice an n2 cn, .slice ap n3 cp] 28)
  have hbS : Below w1.heap.size w1 (w1.alloc (.cells #[.slice at_ n1 ct, .slice an n2 cn, .slice ap n3 cp] 28)) := (Below.refl _ _).alloc (Nat.le_refl _) _
  have q0 := heap_alloc_new w1 (.cells #[.slice at_ n1 ct, .slice an n2 cn, .slice ap n3 cp] 28)
  have HG := Lib.hid (hg1.below hbS)
  have HBA := Lib.hid hbA
  have HQ0 := Lib.hid q0
  have HM := Lib.hid hm
  clear hb1 hg1 hbA hbS q0 HA1 HX HB0 hm
  generalize w1.alloc (.cells #[.slice at_ n1 ct, .slice an n2 cn, .slice ap n3 cp] 28) = S at *
  generalize w1.heap.size = B1 at *
  have c0 := (blk_cell (i := 0) HQ0.out rfl).1
  have c1 := (blk_cell (i := 1) HQ0.out rfl).1
  have c2 := (blk_cell (i := 2) HQ0.out rfl).1
  have l1 := heap_lt HQ0.out
  have hpr := print_any _ g S HG.out (mid_fits HM.out) (mid_small HM.out) (mid_t HM.out) (mid_n HM.out)
  by_cases hE : ChkP g ∧ parse (writeT g) = .ok g
  · rw [show printS g = writeT g from if_pos hE, show printE g = 0 from if_pos hE] at hpr
    have hck := (chk_iff g).1 hE.1
    have HPR := Lib.hid hpr
    have HPA := Lib.hid fun W => parse_ok ⟨(writeT g).toArray⟩ g W (write_len hck) hE.2
    have hci : chkI g = 0 := if_pos hE.1
    have HCK := Lib.hid fun W (hW : Below S.heap.size S W) => chk_any _ g W (HG.out.below hW) (mid_fits HM.out) (mid_small HM.out) (check_terms hck) (check_nons hck)
    rw [hci] at HCK
    have HSM := Lib.hid fun (v : Value) (W : World) (hW : Below S.heap.size S W) (hv : GramAt W v g) => (same_any _ v g g W (HG.out.below hW) hv (fits_check hck) (fits_check hck)).mono fun e w' ⟨he, hb⟩ => (⟨he.trans (by rw [decide_eq_true rfl]), hb⟩ : e = Ending.returned (.bool true) ∧ Below W.heap.size W w')
    have HSK := Lib.hid fun (W : World) (hW : Below S.heap.size S W) => (hW.block B1 l1).trans HQ0.out
    clear hE hpr hck hci
    go_upto_region 3 with (go_at_call 16; refine HPR.out.mono ?_; rintro e w2 ⟨rfl, hb2⟩)
    clear c0 c1 c2 l1
    go_upto_region 5 with (go_at_call 29; refine (HPA.out _).mono ?_; rintro e w3 ⟨v, rfl, hb3, hg3⟩; obtain ⟨b1, b2, b3, d1, d2, d3, rfl⟩ := gram_form hg3.at_)
    have hbS3 := (hb2.trans (hb3.mono hb2.size))
    have hbS4 := hbS3.alloc hbS3.size (.cells #[.slice b1 g.terms.length d1, .slice b2 g.nons.length d2, .slice b3 g.prods.length d3] 28)
    have r0 := heap_alloc_new w3 (.cells #[.slice b1 g.terms.length d1, .slice b2 g.nons.length d2, .slice b3 g.prods.length d3] 28)
    have hh := hg3.at_.below (box_below w3 (.cells #[.slice b1 g.terms.length d1, .slice b2 g.nons.length d2, .slice b3 g.prods.length d3] 28))
    have HBS := Lib.hid hbS4
    have HH := Lib.hid hh
    have HR0 := Lib.hid r0
    clear hb2 hb3 hg3 hbS3 hbS4 r0 hh HPR HPA
    generalize w3.alloc (.cells #[.slice b1 g.terms.length d1, .slice b2 g.nons.length d2, .slice b3 g.prods.length d3] 28) = S2 at *
    generalize w3.heap.size = B2 at *
    have p0 := HSK.out _ HBS.out
    have k0 := (blk_cell (i := 0) p0 rfl).1
    have k1 := (blk_cell (i := 1) p0 rfl).1
    have k2 := (blk_cell (i := 2) p0 rfl).1
    have k3 := (blk_cell (i := 0) HR0.out rfl).1
    have k4 := (blk_cell (i := 1) HR0.out rfl).1
    have k5 := (blk_cell (i := 2) HR0.out rfl).1
    have l0 := heap_lt p0
    have l1 := heap_lt HR0.out
    clear p0
    go_upto_region 7 with (first
      | (go_at_call 20; refine (HSM.out _ _ HBS.out HH.out).mono ?_; rintro e w4 ⟨rfl, hb4⟩; have hbS4 := HBS.out.trans (hb4.mono HBS.out.size); have p1 := HSK.out _ hbS4; have m0 := (blk_cell (i := 0) p1 rfl).1; have m1 := (blk_cell (i := 1) p1 rfl).1; have m2 := (blk_cell (i := 2) p1 rfl).1; have m3 := heap_lt p1)
      | (go_at_call 19; refine (HCK.out _ hbS4).mono ?_; rintro e w5 ⟨rfl, hb5⟩))
    have HBW := Lib.hid (HBA.out.trans ((hbS4.trans (hb5.mono hbS4.size)).mono HBA.out.size))
    clear hb4 hb5 hbS4 k0 k1 k2 k3 k4 k5 l0 l1 p1 m0 m1 m2 m3 HBS HH HR0 HCK HSM HSK HQ0 HG HBA
    rename World => w9
    as_aux_lemma =>
    have HT9 := Lib.hid (HTX.out _ HBW.out)
    clear HTX HM
    go_upto_region 8 with (first
      | (go_at_call 30; refine HT9.out.mono ?_; rintro e wt ⟨t, ht, rfl, hbt⟩)
      | (go_at_call 29; refine (parse_both t _ (by omega)).mono ?_; rintro e wp ⟨hbp, a1, a2, a3, z1, z2, z3, c1, c2, c3, lx, cx, ex, h, rfl, hgh, hpp⟩))
    have hbw := (HBW.out.trans (hbt.mono HBW.out.size)).trans (hbp.mono (Nat.le_trans HBW.out.size hbt.size))
    have HBX := Lib.hid (hbw.alloc hbw.size (.cells #[.slice a1 z1 c1, .slice a2 z2 c2, .slice a3 z3 c3] 28))
    have r0 := heap_alloc_new wp (.cells #[.slice a1 z1 c1, .slice a2 z2 c2, .slice a3 z3 c3] 28)
    have HH := Lib.hid (hgh.below (box_below wp (.cells #[.slice a1 z1 c1, .slice a2 z2 c2, .slice a3 z3 c3] 28)))
    have HR0 := Lib.hid r0
    have HPP := Lib.hid hpp
    clear hbt hbp hbw r0 hgh hpp ht HT9 HBW
    generalize wp.alloc (.cells #[.slice a1 z1 c1, .slice a2 z2 c2, .slice a3 z3 c3] 28) = S9 at *
    generalize wp.heap.size = B9 at *
    have x0 := (blk_cell (i := 0) HR0.out rfl).1
    have x1 := (blk_cell (i := 1) HR0.out rfl).1
    have x2 := (blk_cell (i := 2) HR0.out rfl).1
    have x3 := heap_lt HR0.out
    rcases HPP.out with ⟨rfl, hp⟩ | ⟨hx, hh0⟩
    · obtain ⟨hck, hcp, hps, hpe, hpw, hpf⟩ := print_back hp
      have hpr := print_any _ h S9 HH.out (fits_check hck) (small_checkG hck) (good_tn hck).1 (good_tn hck).2
      rw [hps, hpe] at hpr
      have HPR9 := Lib.hid hpr
      have hwl := write_len hck
      have HPA := Lib.hid fun W => parse_ok ⟨([32, 32, 35, 32, 102, 105, 114, 115, 116, 10] ++ writeT h).toArray⟩ h W (by show ([32, 32, 35, 32, 102, 105, 114, 115, 116, 10] ++ writeT h).length ≤ _; simp only [List.length_append, List.length_cons, List.length_nil]; have := write_lenX hck; omega) hpf
      have hcat : ∀ W, (Op.stringOp .add ⟨#[32, 32, 35, 32, 102, 105, 114, 115, 116, 10]⟩ ⟨(writeT h).toArray⟩).run Try.prog W = .ok (.string ⟨([32, 32, 35, 32, 102, 105, 114, 115, 116, 10] ++ writeT h).toArray⟩) W := fun W => cat2_run [32, 32, 35, 32, 102, 105, 114, 115, 116, 10] (writeT h) W (by simp only [List.length_cons, List.length_nil]; omega)
      have hci : chkI h = 0 := if_pos hcp
      have HCK9 := Lib.hid fun W (hW : Below S9.heap.size S9 W) => chk_any _ h W (HH.out.below hW) (fits_check hck) (small_checkG hck) (check_terms hck) (check_nons hck)
      rw [hci] at HCK9
      have HSM9 := Lib.hid fun (v : Value) (W : World) (hW : Below S9.heap.size S9 W) (hv : GramAt W v h) => (same_any _ v h h W (HH.out.below hW) hv (fits_check hck) (fits_check hck)).mono fun e w' ⟨he, hb⟩ => (⟨he.trans (by rw [decide_eq_true rfl]), hb⟩ : e = Ending.returned (.bool true) ∧ Below W.heap.size W w')
      have HSK9 := Lib.hid fun (W : World) (hW : Below S9.heap.size S9 W) => (hW.block B9 x3).trans HR0.out
      clear hck hcp hps hpe hpw hpf hpr hwl hci hp HPP HH
      go_upto_region 11 with (go_at_call 16; refine HPR9.out.mono ?_; rintro e y2 ⟨rfl, hb2⟩)
      have HB2 := Lib.hid hb2
      clear x0 x1 x2 x3 hb2 HPR9
      go_upto_region 12 with (go_at_call 29; refine (HPA.out _).mono ?_; rintro e y3 ⟨v, rfl, hb3, hg3⟩; obtain ⟨b1, b2, b3, d1, d2, d3, rfl⟩ := gram_form hg3.at_)
      have hbS3 := (HB2.out.trans (hb3.mono HB2.out.size))
      have hbS4 := hbS3.alloc hbS3.size (.cells #[.slice b1 h.terms.length d1, .slice b2 h.nons.length d2, .slice b3 h.prods.length d3] 28)
      have r1 := heap_alloc_new y3 (.cells #[.slice b1 h.terms.length d1, .slice b2 h.nons.length d2, .slice b3 h.prods.length d3] 28)
      have HI := Lib.hid (hg3.at_.below (box_below y3 (.cells #[.slice b1 h.terms.length d1, .slice b2 h.nons.length d2, .slice b3 h.prods.length d3] 28)))
      have HBS := Lib.hid hbS4
      have HR1 := Lib.hid r1
      clear hb3 hg3 hbS3 hbS4 r1 HPA HB2
      generalize y3.alloc (.cells #[.slice b1 h.terms.length d1, .slice b2 h.nons.length d2, .slice b3 h.prods.length d3] 28) = S8 at *
      generalize y3.heap.size = B8 at *
      have p0 := HSK9.out _ HBS.out
      have k0 := (blk_cell (i := 0) p0 rfl).1
      have k1 := (blk_cell (i := 1) p0 rfl).1
      have k2 := (blk_cell (i := 2) p0 rfl).1
      have k3 := (blk_cell (i := 0) HR1.out rfl).1
      have k4 := (blk_cell (i := 1) HR1.out rfl).1
      have k5 := (blk_cell (i := 2) HR1.out rfl).1
      have l0 := heap_lt p0
      have l1 := heap_lt HR1.out
      clear p0
      go_wp2_with (first
        | (go_at_call 20; refine (HSM9.out _ _ HBS.out HI.out).mono ?_; rintro e y4 ⟨rfl, hb4⟩; have hbS4 := HBS.out.trans (hb4.mono HBS.out.size); have p1 := HSK9.out _ hbS4; have m0 := (blk_cell (i := 0) p1 rfl).1; have m1 := (blk_cell (i := 1) p1 rfl).1; have m2 := (blk_cell (i := 2) p1 rfl).1; have m3 := heap_lt p1)
        | (go_at_call 19; refine (HCK9.out _ hbS4).mono ?_; rintro e y5 ⟨rfl, hb5⟩)
        | (go_at_call 28; refine (HWK.out _).mono ?_; rintro e y6 ⟨rfl, hb6⟩))
      go_ret
      have h5 := hbS4.trans (hb5.mono hbS4.size)
      have h6 := h5.trans (hb6.mono h5.size)
      exact ⟨rfl, HBX.out.trans (h6.mono HBX.out.size)⟩
    · subst hh0
      have HSM9 := Lib.hid ((same_any _ _ _ _ S9 HH.out (gram_nil S9) fits_nil fits_nil).mono fun e w' ⟨he, hb⟩ => (⟨he.trans (by rw [decide_eq_true rfl]), hb⟩ : e = Ending.returned (.bool true) ∧ Below S9.heap.size S9 w'))
      have hx1 : (ex != 0) = true := by simpa using hx
      clear HPP HH hx
      go_wp2_with (first
        | (go_at_call 20; refine HSM9.out.mono ?_; rintro e y4 ⟨rfl, hb4⟩)
        | (go_at_call 28; refine (HWK.out _).mono ?_; rintro e y6 ⟨rfl, hb6⟩))
      go_ret
      have h6 := hb4.trans (hb6.mono hb4.size)
      exact ⟨rfl, HBX.out.trans (h6.mono HBX.out.size)⟩
  · rw [show printS g = [] from if_neg hE, show printE g = 1 from if_neg hE] at hpr
    have HPR := Lib.hid hpr
    clear hE hpr
    go_upto_region 7 with (go_at_call 16; refine HPR.out.mono ?_; rintro e w2 ⟨rfl, hb2⟩)
    have HBW := Lib.hid (HBA.out.trans (hb2.mono HBA.out.size))
    clear hb2 c0 c1 c2 l1 HPR HQ0 HG HBA
    rename World => w9
    as_aux_lemma =>
    have HT9 := Lib.hid (HTX.out _ HBW.out)
    clear HTX HM
    go_upto_region 8 with (first
      | (go_at_call 30; refine HT9.out.mono ?_; rintro e wt ⟨t, ht, rfl, hbt⟩)
      | (go_at_call 29; refine (parse_both t _ (by omega)).mono ?_; rintro e wp ⟨hbp, a1, a2, a3, z1, z2, z3, c1, c2, c3, lx, cx, ex, h, rfl, hgh, hpp⟩))
    have hbw := (HBW.out.trans (hbt.mono HBW.out.size)).trans (hbp.mono (Nat.le_trans HBW.out.size hbt.size))
    have HBX := Lib.hid (hbw.alloc hbw.size (.cells #[.slice a1 z1 c1, .slice a2 z2 c2, .slice a3 z3 c3] 28))
    have r0 := heap_alloc_new wp (.cells #[.slice a1 z1 c1, .slice a2 z2 c2, .slice a3 z3 c3] 28)
    have HH := Lib.hid (hgh.below (box_below wp (.cells #[.slice a1 z1 c1, .slice a2 z2 c2, .slice a3 z3 c3] 28)))
    have HR0 := Lib.hid r0
    have HPP := Lib.hid hpp
    clear hbt hbp hbw r0 hgh hpp ht HT9 HBW
    generalize wp.alloc (.cells #[.slice a1 z1 c1, .slice a2 z2 c2, .slice a3 z3 c3] 28) = S9 at *
    generalize wp.heap.size = B9 at *
    have x0 := (blk_cell (i := 0) HR0.out rfl).1
    have x1 := (blk_cell (i := 1) HR0.out rfl).1
    have x2 := (blk_cell (i := 2) HR0.out rfl).1
    have x3 := heap_lt HR0.out
    rcases HPP.out with ⟨rfl, hp⟩ | ⟨hx, hh0⟩
    · obtain ⟨hck, hcp, hps, hpe, hpw, hpf⟩ := print_back hp
      have hpr := print_any _ h S9 HH.out (fits_check hck) (small_checkG hck) (good_tn hck).1 (good_tn hck).2
      rw [hps, hpe] at hpr
      have HPR9 := Lib.hid hpr
      have hwl := write_len hck
      have HPA := Lib.hid fun W => parse_ok ⟨([32, 32, 35, 32, 102, 105, 114, 115, 116, 10] ++ writeT h).toArray⟩ h W (by show ([32, 32, 35, 32, 102, 105, 114, 115, 116, 10] ++ writeT h).length ≤ _; simp only [List.length_append, List.length_cons, List.length_nil]; have := write_lenX hck; omega) hpf
      have hcat : ∀ W, (Op.stringOp .add ⟨#[32, 32, 35, 32, 102, 105, 114, 115, 116, 10]⟩ ⟨(writeT h).toArray⟩).run Try.prog W = .ok (.string ⟨([32, 32, 35, 32, 102, 105, 114, 115, 116, 10] ++ writeT h).toArray⟩) W := fun W => cat2_run [32, 32, 35, 32, 102, 105, 114, 115, 116, 10] (writeT h) W (by simp only [List.length_cons, List.length_nil]; omega)
      have hci : chkI h = 0 := if_pos hcp
      have HCK9 := Lib.hid fun W (hW : Below S9.heap.size S9 W) => chk_any _ h W (HH.out.below hW) (fits_check hck) (small_checkG hck) (check_terms hck) (check_nons hck)
      rw [hci] at HCK9
      have HSM9 := Lib.hid fun (v : Value) (W : World) (hW : Below S9.heap.size S9 W) (hv : GramAt W v h) => (same_any _ v h h W (HH.out.below hW) hv (fits_check hck) (fits_check hck)).mono fun e w' ⟨he, hb⟩ => (⟨he.trans (by rw [decide_eq_true rfl]), hb⟩ : e = Ending.returned (.bool true) ∧ Below W.heap.size W w')
      have HSK9 := Lib.hid fun (W : World) (hW : Below S9.heap.size S9 W) => (hW.block B9 x3).trans HR0.out
      clear hck hcp hps hpe hpw hpf hpr hwl hci hp HPP HH
      go_upto_region 11 with (go_at_call 16; refine HPR9.out.mono ?_; rintro e y2 ⟨rfl, hb2⟩)
      have HB2 := Lib.hid hb2
      clear x0 x1 x2 x3 hb2 HPR9
      go_upto_region 12 with (go_at_call 29; refine (HPA.out _).mono ?_; rintro e y3 ⟨v, rfl, hb3, hg3⟩; obtain ⟨b1, b2, b3, d1, d2, d3, rfl⟩ := gram_form hg3.at_)
      have hbS3 := (HB2.out.trans (hb3.mono HB2.out.size))
      have hbS4 := hbS3.alloc hbS3.size (.cells #[.slice b1 h.terms.length d1, .slice b2 h.nons.length d2, .slice b3 h.prods.length d3] 28)
      have r1 := heap_alloc_new y3 (.cells #[.slice b1 h.terms.length d1, .slice b2 h.nons.length d2, .slice b3 h.prods.length d3] 28)
      have HI := Lib.hid (hg3.at_.below (box_below y3 (.cells #[.slice b1 h.terms.length d1, .slice b2 h.nons.length d2, .slice b3 h.prods.length d3] 28)))
      have HBS := Lib.hid hbS4
      have HR1 := Lib.hid r1
      clear hb3 hg3 hbS3 hbS4 r1 HPA HB2
      generalize y3.alloc (.cells #[.slice b1 h.terms.length d1, .slice b2 h.nons.length d2, .slice b3 h.prods.length d3] 28) = S8 at *
      generalize y3.heap.size = B8 at *
      have p0 := HSK9.out _ HBS.out
      have k0 := (blk_cell (i := 0) p0 rfl).1
      have k1 := (blk_cell (i := 1) p0 rfl).1
      have k2 := (blk_cell (i := 2) p0 rfl).1
      have k3 := (blk_cell (i := 0) HR1.out rfl).1
      have k4 := (blk_cell (i := 1) HR1.out rfl).1
      have k5 := (blk_cell (i := 2) HR1.out rfl).1
      have l0 := heap_lt p0
      have l1 := heap_lt HR1.out
      clear p0
      go_wp2_with (first
        | (go_at_call 20; refine (HSM9.out _ _ HBS.out HI.out).mono ?_; rintro e y4 ⟨rfl, hb4⟩; have hbS4 := HBS.out.trans (hb4.mono HBS.out.size); have p1 := HSK9.out _ hbS4; have m0 := (blk_cell (i := 0) p1 rfl).1; have m1 := (blk_cell (i := 1) p1 rfl).1; have m2 := (blk_cell (i := 2) p1 rfl).1; have m3 := heap_lt p1)
        | (go_at_call 19; refine (HCK9.out _ hbS4).mono ?_; rintro e y5 ⟨rfl, hb5⟩)
        | (go_at_call 28; refine (HWK.out _).mono ?_; rintro e y6 ⟨rfl, hb6⟩))
      go_ret
      have h5 := hbS4.trans (hb5.mono hbS4.size)
      have h6 := h5.trans (hb6.mono h5.size)
      exact ⟨rfl, HBX.out.trans (h6.mono HBX.out.size)⟩
    · subst hh0
      have HSM9 := Lib.hid ((same_any _ _ _ _ S9 HH.out (gram_nil S9) fits_nil fits_nil).mono fun e w' ⟨he, hb⟩ => (⟨he.trans (by rw [decide_eq_true rfl]), hb⟩ : e = Ending.returned (.bool true) ∧ Below S9.heap.size S9 w'))
      have hx1 : (ex != 0) = true := by simpa using hx
      clear HPP HH hx
      go_wp2_with (first
        | (go_at_call 20; refine HSM9.out.mono ?_; rintro e y4 ⟨rfl, hb4⟩)
        | (go_at_call 28; refine (HWK.out _).mono ?_; rintro e y6 ⟨rfl, hb6⟩))
      go_ret
      have h6 := hb4.trans (hb6.mono hb4.size)
      exact ⟨rfl, HBX.out.trans (h6.mono HBX.out.size)⟩

end Go.Proofs.Ytljoihhhfpmfeaa
