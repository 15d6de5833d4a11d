/- exegeteplay.Grammar: walked, where nothing is spoilt. -/
import Derived.Test.YtflfmcikfiaoiaaPlayGH
import Derived.Deep.RegionHeld3
import Derived.Deep.Cut
import Derived.Deep.CutBlock
set_option linter.unusedVariables false
namespace Go.Proofs.Ytflfmcikfiaoiaa
open Go.RowKit
open Doc

set_option maxRecDepth 100000 in
set_option maxHeartbeats 8000000 in
theorem grammar_0 (x : RawX) (w : World) (hx : RawAt w x) (hw : RawWide x) (hsel : x.how % 40 < 28) :
    Calls Try.prog 18 #[x.v] w fun e w' => Below w.heap.size w w' ∧ ∃ (a1 a2 a3 : Option Addr) (c1 c2 c3 : Nat) (g : Gr), e = .returned (.agg #[.slice a1 g.terms.length c1, .slice a2 g.nons.length c2, .slice a3 g.prods.length c3]) ∧ GramAt w' (.agg #[.slice a1 g.terms.length c1, .slice a2 g.nons.length c2, .slice a3 g.prods.length c3]) g ∧ CheckG g := by
  have HCK : Hid (CheckG x.any) := Lib.hid (anyF_check x.terms x.nons x.plain)
  have HANY := Lib.hid fun W (hW : Below w.heap.size w W) => any_any x W (hx.below hW)
  obtain ⟨xp, xt, xn, xh, rows, xa, xc, word⟩ := x
  unfold RawX.v at HANY ⊢
  simp only at HANY ⊢
  obtain ⟨_, hw1, hw2, _, hw3⟩ := hw
  simp only at hw1 hw2 hw3
  obtain ⟨d, hd, hdl⟩ : ∃ d : Nat, xp % 5 = d ∧ d < 5 := ⟨(xp % 5).toNat, by omega, by omega⟩
  obtain ⟨hh, hhd, hhl⟩ : ∃ d : Nat, xh % 40 = d ∧ d < 40 := ⟨(xh % 40).toNat, by omega, by omega⟩
  have HWP := Lib.hid fun W => (within_any xp 5 (by omega) (by omega) W).mono fun e w' ⟨he, hw⟩ => (⟨he.trans (by rw [hd]), hw⟩ : e = Ending.returned (.int .i64 d) ∧ w' = W)
  have HWH := Lib.hid fun W => (within_any xh 40 (by omega) (by omega) W).mono fun e w' ⟨he, hw⟩ => (⟨he.trans (by rw [hhd]), hw⟩ : e = Ending.returned (.int .i64 hh) ∧ w' = W)
  have HGOOD := Lib.hid fun W => good_any xt W
  have HBAD := Lib.hid fun W => bad_any xt W
  have H3 := Lib.hid (three w (.cells #[.int .i64 xp, .int .i64 xt, .int .i64 xn, .int .i64 xh, .slice xa rows.length xc, .string word] 24) (.cells #[.slice none 0 0, .slice none 0 0, .slice none 0 0] 28) (.cells #[.slice none 0 0, .slice none 0 0, .slice none 0 0] 28))
  simp only at hsel
  have hsl : hh < 28 := by omega
  clear hd hhd hx hsel
  obtain ⟨i0, hi0, hz0, hz1, hz2⟩ := info_of infoS
  obtain ⟨i1, hi1, hy0, hy1, hy2⟩ := info_of infoP
  obtain ⟨i2, hi2, ht0, ht1, ht2⟩ := info_of infoI
  have hmax : maxI = 9223372036854775807 := rfl
  go_enter Try.func18, Try.ntmps18
  go_upto_region 3 with fail
  obtain ⟨hb0, hsz, qX, qR, qB⟩ := H3.out
  clear H3
  generalize ((w.alloc (.cells #[.int .i64 xp, .int .i64 xt, .int .i64 xn, .int .i64 xh, .slice xa rows.length xc, .string word] 24)).alloc (.cells #[.slice none 0 0, .slice none 0 0, .slice none 0 0] 28)).alloc (.cells #[.slice none 0 0, .slice none 0 0, .slice none 0 0] 28) = S at *
  have lX := heap_lt qX
  have lR := heap_lt qR
  have lB := heap_lt qB
  have HX : Hid (∀ W, Below S.heap.size S W → (W.cell? ⟨w.heap.size, 0, none⟩ = some (.int .i64 xp) ∧ W.cell? ⟨w.heap.size, 1, none⟩ = some (.int .i64 xt) ∧ W.cell? ⟨w.heap.size, 2, none⟩ = some (.int .i64 xn) ∧ W.cell? ⟨w.heap.size, 3, none⟩ = some (.int .i64 xh) ∧ W.cell? ⟨w.heap.size, 4, none⟩ = some (.slice xa rows.length xc) ∧ W.cell? ⟨w.heap.size, 5, none⟩ = some (.string word)) ∧ w.heap.size < W.heap.size) := Lib.hid fun W hW =>
    have h := (hW.block w.heap.size lX).trans qX
    ⟨⟨(blk_cell (i := 0) (u := .int .i64 xp) h rfl).1, (blk_cell (i := 1) (u := .int .i64 xt) h rfl).1, (blk_cell (i := 2) (u := .int .i64 xn) h rfl).1, (blk_cell (i := 3) (u := .int .i64 xh) h rfl).1, (blk_cell (i := 4) (u := .slice xa rows.length xc) h rfl).1, (blk_cell (i := 5) (u := .string word) h rfl).1⟩, heap_lt h⟩
  obtain ⟨⟨c0, c1, c2, c3, c4, c5⟩, c6⟩ := HX.out S (Below.refl _ _)
  have HQR := Lib.hid qR
  have HQB := Lib.hid qB
  have HB0 := Lib.hid hb0
  have HSZ := Lib.hid hsz
  have HQX := Lib.hid qX
  clear qX qR qB hb0
  have HLB := Lib.hid lB
  go_upto_block 0 with (go_at_call 27; refine (HWP.out _).mono ?_; rintro e w1 ⟨rfl, hw1⟩; rw [hw1]; clear hw1)
  clear HWP
  go_cut [4] from 11 to 23 (fun p wx => p = .pointer (some ⟨w.heap.size + 1 + 1, 0, none⟩) ∧ ∃ (bt bn bp ct cn cp : Nat) (ts ns : List (List UInt8)) (ls : List Lay), Hid (OwnG S.heap.size (w.heap.size + 1 + 1) wx bt bn bp ct cn cp ts ns ls) ∧ Hid (CheckG ⟨ts, ns, ls.map Lay.plain⟩) ∧ Hid (Below w.heap.size w wx) ∧ Hid (∀ k, k < S.heap.size → k ≠ w.heap.size + 1 + 1 → wx.heap[k]? = S.heap[k]?))
  case first =>
    rcases (show d = 0 ∨ d = 1 ∨ d = 2 ∨ d = 3 ∨ d = 4 by omega) with rfl | rfl | rfl | rfl | rfl
    · go_wp2_with (go_at_call 47; refine (HGOOD.out S).mono ?_; rintro e w2 ⟨hb2, ts, ns, ls, at_, an, ap, ct, cn, cp, rfl, hr, hp⟩; have HCG := Lib.hid (parse_check hp); obtain ⟨bt, bn, bp, rfl, rfl, rfl, ho⟩ := own_of hr (parse_check hp) ((hb2.block _ HLB.out).trans HQB.out) HLB.out; have q0 := (hb2.block _ HLB.out).trans HQB.out; obtain ⟨v0, z0⟩ := blk_cell (i := 0) (u := .slice none 0 0) q0 rfl; obtain ⟨v1, z1⟩ := blk_cell (i := 1) (u := .slice none 0 0) q0 rfl; obtain ⟨v2, z2⟩ := blk_cell (i := 2) (u := .slice none 0 0) q0 rfl; have l2 := heap_lt q0; have HO := Lib.hid ho; have HB2 := Lib.hid hb2; clear ho hr hp q0 hb2)
      go_meet
      case rel => exact ⟨rfl, bt, bn, bp, ct, cn, cp, ts, ns, ls, HO, HCG, Lib.hid (store3_below (HB0.out.trans (HB2.out.mono HB0.out.size)) (by omega) _ _ _), Lib.hid fun k h1 h2 => (store3_far _ _ _ k h2).trans (HB2.out.block k h1)⟩
    · go_wp2_with (go_at_call 47; refine (HGOOD.out S).mono ?_; rintro e w2 ⟨hb2, ts, ns, ls, at_, an, ap, ct, cn, cp, rfl, hr, hp⟩; have HCG := Lib.hid (parse_check hp); obtain ⟨bt, bn, bp, rfl, rfl, rfl, ho⟩ := own_of hr (parse_check hp) ((hb2.block _ HLB.out).trans HQB.out) HLB.out; have q0 := (hb2.block _ HLB.out).trans HQB.out; obtain ⟨v0, z0⟩ := blk_cell (i := 0) (u := .slice none 0 0) q0 rfl; obtain ⟨v1, z1⟩ := blk_cell (i := 1) (u := .slice none 0 0) q0 rfl; obtain ⟨v2, z2⟩ := blk_cell (i := 2) (u := .slice none 0 0) q0 rfl; have l2 := heap_lt q0; have HO := Lib.hid ho; have HB2 := Lib.hid hb2; clear ho hr hp q0 hb2)
      go_meet
      case rel => exact ⟨rfl, bt, bn, bp, ct, cn, cp, ts, ns, ls, HO, HCG, Lib.hid (store3_below (HB0.out.trans (HB2.out.mono HB0.out.size)) (by omega) _ _ _), Lib.hid fun k h1 h2 => (store3_far _ _ _ k h2).trans (HB2.out.block k h1)⟩
    · go_wp2_with (go_at_call 62; refine (HBAD.out S).mono ?_; rintro e w2 ⟨hb2, ts, ns, ls, at_, an, ap, ct, cn, cp, rfl, hr, hp⟩; have HCG := Lib.hid (parse_check hp); obtain ⟨bt, bn, bp, rfl, rfl, rfl, ho⟩ := own_of hr (parse_check hp) ((hb2.block _ HLB.out).trans HQB.out) HLB.out; have q0 := (hb2.block _ HLB.out).trans HQB.out; obtain ⟨v0, z0⟩ := blk_cell (i := 0) (u := .slice none 0 0) q0 rfl; obtain ⟨v1, z1⟩ := blk_cell (i := 1) (u := .slice none 0 0) q0 rfl; obtain ⟨v2, z2⟩ := blk_cell (i := 2) (u := .slice none 0 0) q0 rfl; have l2 := heap_lt q0; have HO := Lib.hid ho; have HB2 := Lib.hid hb2; clear ho hr hp q0 hb2)
      go_meet
      case rel => exact ⟨rfl, bt, bn, bp, ct, cn, cp, ts, ns, ls, HO, HCG, Lib.hid (store3_below (HB0.out.trans (HB2.out.mono HB0.out.size)) (by omega) _ _ _), Lib.hid fun k h1 h2 => (store3_far _ _ _ k h2).trans (HB2.out.block k h1)⟩
    · go_wp2_with (go_at_call 10; refine (HANY.out _ HB0.out).mono ?_; rintro e w2 ⟨hb2, F, ts, ns, ls, at_, an, ap, ct, cn, cp, rfl, hF, hr, hg, _⟩; have HCG : Hid (CheckG ⟨ts, ns, ls.map Lay.plain⟩) := Lib.hid (by rw [hg]; exact HCK.out); obtain ⟨bt, bn, bp, rfl, rfl, rfl, ho⟩ := own_of (hr.base hF) (by rw [hg]; exact HCK.out) ((hb2.block _ HLB.out).trans HQB.out) HLB.out; have q0 := (hb2.block _ HLB.out).trans HQB.out; obtain ⟨v0, z0⟩ := blk_cell (i := 0) (u := .slice none 0 0) q0 rfl; obtain ⟨v1, z1⟩ := blk_cell (i := 1) (u := .slice none 0 0) q0 rfl; obtain ⟨v2, z2⟩ := blk_cell (i := 2) (u := .slice none 0 0) q0 rfl; have l2 := heap_lt q0; have HO := Lib.hid ho; have HB2 := Lib.hid hb2; clear ho hr hg q0 hb2 hF)
      go_meet
      case rel => exact ⟨rfl, bt, bn, bp, ct, cn, cp, ts, ns, ls, HO, HCG, Lib.hid (store3_below (HB0.out.trans (HB2.out.mono HB0.out.size)) (by omega) _ _ _), Lib.hid fun k h1 h2 => (store3_far _ _ _ k h2).trans (HB2.out.block k h1)⟩
    · go_wp2_with (go_at_call 10; refine (HANY.out _ HB0.out).mono ?_; rintro e w2 ⟨hb2, F, ts, ns, ls, at_, an, ap, ct, cn, cp, rfl, hF, hr, hg, _⟩; have HCG : Hid (CheckG ⟨ts, ns, ls.map Lay.plain⟩) := Lib.hid (by rw [hg]; exact HCK.out); obtain ⟨bt, bn, bp, rfl, rfl, rfl, ho⟩ := own_of (hr.base hF) (by rw [hg]; exact HCK.out) ((hb2.block _ HLB.out).trans HQB.out) HLB.out; have q0 := (hb2.block _ HLB.out).trans HQB.out; obtain ⟨v0, z0⟩ := blk_cell (i := 0) (u := .slice none 0 0) q0 rfl; obtain ⟨v1, z1⟩ := blk_cell (i := 1) (u := .slice none 0 0) q0 rfl; obtain ⟨v2, z2⟩ := blk_cell (i := 2) (u := .slice none 0 0) q0 rfl; have l2 := heap_lt q0; have HO := Lib.hid ho; have HB2 := Lib.hid hb2; clear ho hr hg q0 hb2 hF)
      go_meet
      case rel => exact ⟨rfl, bt, bn, bp, ct, cn, cp, ts, ns, ls, HO, HCG, Lib.hid (store3_below (HB0.out.trans (HB2.out.mono HB0.out.size)) (by omega) _ _ _), Lib.hid fun k h1 h2 => (store3_far _ _ _ k h2).trans (HB2.out.block k h1)⟩
  case rest =>
    obtain ⟨rfl, bt, bn, bp, ct, cn, cp, ts, ns, ls, HO, HCG, HB2, HK2⟩ := hcut
    rename World => wx
    clear HGOOD HBAD HANY HCK HX c0 c1 c2 c3 c4 c5 c6
    have hsz2 := HSZ.out
    have low := HO.out.low
    have l1 := HO.out.l1
    obtain ⟨k, hk, hkl⟩ : ∃ k : Nat, xn % (ls.length : Int) = k ∧ k < ls.length := ⟨(xn % (ls.length : Int)).toNat, by have := Int.emod_nonneg xn (show (ls.length : Int) ≠ 0 by omega); omega, by have := Int.emod_nonneg xn (show (ls.length : Int) ≠ 0 by omega); have := Int.emod_lt_of_pos xn (show (0 : Int) < ls.length by omega); omega⟩
    have HWK := Lib.hid fun W => (within_any xn ls.length (by omega) (by omega) W).mono fun e w' ⟨he, hw⟩ => (⟨he.trans (by rw [hk]), hw⟩ : e = Ending.returned (.int .i64 k) ∧ w' = W)
    clear hk
    have f0 := (blk_cell (i := 0) (u := .slice (some ⟨bt, 0, none⟩) ts.length ct) HO.out.q rfl)
    have f1 := (blk_cell (i := 1) (u := .slice (some ⟨bn, 0, none⟩) ns.length cn) HO.out.q rfl)
    have f2 := (blk_cell (i := 2) (u := .slice (some ⟨bp, 0, none⟩) ls.length cp) HO.out.q rfl)
    have lB2 := heap_lt HO.out.q
    have qX2 := (HK2.out w.heap.size lX (by omega)).trans HQX.out
    have HR2 := Lib.hid ((HK2.out (w.heap.size + 1) lR (by omega)).trans HQR.out)
    have x1 := (blk_cell (i := 1) (u := .int .i64 xt) qX2 rfl).1
    have x2 := (blk_cell (i := 2) (u := .int .i64 xn) qX2 rfl).1
    have x3 := (blk_cell (i := 3) (u := .int .i64 xh) qX2 rfl).1
    have x5 := (blk_cell (i := 5) (u := .string word) qX2 rfl).1
    have lX2 := heap_lt qX2
    have qX2 := Lib.hid qX2
    have hpos : ((ls.length : Int) == 0) = false := by rw [beq_eq_false_iff_ne]; omega
    have hpos2 : (0 : Int) < ls.length := by omega
    go_upto_block 1 with (go_at_call 27; first
      | (with_reducible refine (HWK.out _).mono ?_; rintro e w1 ⟨rfl, hw1⟩; rw [hw1]; clear hw1)
      | (with_reducible refine (HWH.out _).mono ?_; rintro e w1 ⟨rfl, hw1⟩; rw [hw1]; clear hw1))
    clear HWK HWH
    have hb28 : (hh : Int) < 28 := by omega
    obtain ⟨r0, z0⟩ := blk_cell (i := 0) (u := .slice none 0 0) HR2.out rfl
    obtain ⟨r1, z1⟩ := blk_cell (i := 1) (u := .slice none 0 0) HR2.out rfl
    obtain ⟨r2, z2⟩ := blk_cell (i := 2) (u := .slice none 0 0) HR2.out rfl
    have lr := heap_lt HR2.out
    obtain ⟨f0, _⟩ := f0
    obtain ⟨f1, _⟩ := f1
    obtain ⟨f2, _⟩ := f2
    go_wp2
    (try simp only [Exit.inBlock, Exit.then])
    have hfar : ∀ {e size n : Nat} {v : Value} {xs : List Value}, wx.ownsRow S.heap.size e size v n xs → ((((wx.setCell ⟨w.heap.size + 1, 0, none⟩ (.slice (some ⟨bt, 0, none⟩) ts.length ct)).setCell ⟨w.heap.size + 1, 1, none⟩ (.slice (some ⟨bn, 0, none⟩) ns.length cn)).setCell ⟨w.heap.size + 1, 2, none⟩ (.slice (some ⟨bp, 0, none⟩) ls.length cp))).ownsRow S.heap.size e size v n xs := fun h => own_same h fun g hg _ => store3_far _ _ _ g (by have := (own_block h hg).1; omega)
    have hpl : (ls.map Lay.plain).length = ls.length := List.length_map _
    refine bodyPost_ret (v := .agg #[.slice (some ⟨bt, 0, none⟩) ts.length ct, .slice (some ⟨bn, 0, none⟩) ns.length cn, .slice (some ⟨bp, 0, none⟩) ls.length cp]) ?_ rfl ⟨?_, some ⟨bt, 0, none⟩, some ⟨bn, 0, none⟩, some ⟨bp, 0, none⟩, ct, cn, cp, ⟨ts, ns, ls.map Lay.plain⟩, by rw [hpl], ?_, HCG.out⟩
    · rw [results_cell1 (p := 2) (ty := 28) rfl]
      show ((asAddr (.pointer (some ⟨w.heap.size + 1, 0, none⟩))).run _ _).andThen _ = _
      show (loadVar 28 ⟨w.heap.size + 1, 0, none⟩).run _ _ = _
      exact run_loadVar_row _ (w.heap.size + 1) 28 28 _ (0, 0) _ (store3 HR2.out _ _ _) Try.underlying28 rfl (by kernel_rfl)
    · exact store3_below HB2.out (by omega) _ _ _
    · rw [hpl]
      have h := HO.out
      exact ⟨_, _, _, _, _, _, ls, rfl, rfl, (own_cells (hfar h.t)).1, (own_cells (hfar h.n)).1, (own_cells (hfar h.p)).1, fun q hq => (own_cells (hfar (h.r q hq))).1, (own_cells (hfar h.t)).2, (own_cells (hfar h.n)).2, (own_cells (hfar h.p)).2⟩

end Go.Proofs.Ytflfmcikfiaoiaa
