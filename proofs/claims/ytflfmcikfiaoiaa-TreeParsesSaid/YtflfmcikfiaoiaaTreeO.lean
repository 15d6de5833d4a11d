/- Trees made of numbers, mostly derivations: the law's own Of, where nothing is spoilt: over any world. -/
import Derived.Test.YtflfmcikfiaoiaaTreeU
import Derived.Test.YtflfmcikfiaoiaaRowC
import Derived.Deep.RegionWith
set_option linter.unusedVariables false
namespace Go.Proofs.Ytflfmcikfiaoiaa
open Go.RowKit
open Doc

theorem wrap_tdiv7 (z : Int) (h1 : -9223372036854775808 ≤ z) (h2 : z ≤ 9223372036854775807) : IntKind.i64.wrap (z.tdiv 7) = z.tdiv 7 := by
  have h : -9223372036854775808 ≤ z.tdiv 7 ∧ z.tdiv 7 ≤ 9223372036854775807 := by
    rcases Int.le_total 0 z with hz | hz
    · rw [Int.tdiv_eq_ediv_of_nonneg hz]; omega
    · have e : z.tdiv 7 = -((-z).tdiv 7) := by rw [Int.neg_tdiv]; omega
      rw [e, Int.tdiv_eq_ediv_of_nonneg (by omega)]; omega
  exact IntWalk.i64_in _ (by omega)
/-- How Of ends: a derivation of its own symbol, a nonterminal. -/
def OfEnd (g : Gr) (w : World) (e : Ending) (w' : World) : Prop :=
  Below w.heap.size w w' ∧ ∃ tl : Tl, e = .returned (.agg #[.int .i64 tl.sym, .int .i64 tl.prod, .slice tl.a tl.kids.length tl.c]) ∧ Lies (fun b => w.heap.size ≤ b) w' tl ∧ checkT g tl.plain tl.sym = true ∧ sizeT tl.plain ≤ 9331 ∧ 100 ≤ tl.sym

set_option maxRecDepth 100000 in
theorem of_end {g : Gr} {w F : World} {tl : Tl} {d : Nat} {sym : Int} (hb : Below w.heap.size w F) (hq : F.heap[w.heap.size + 1]? = some (.cells #[.int .i64 tl.sym, .int .i64 tl.prod, .slice tl.a tl.kids.length tl.c] 71)) (hl : Lies (fun b => w.heap.size ≤ b) F tl) (hck : checkT g tl.plain sym = true) (hsz : sizeT tl.plain ≤ bndT d) (hd5 : d ≤ 5) (hs : 100 ≤ sym) (a : Act) (ha : a.tmps.getD 10 undef = .pointer (some ⟨w.heap.size + 1, 0, none⟩)) (hd : a.defers = []) :
    bodyPost Try.prog Try.f39 (OfEnd g w) .ret a F := by
  have hroot := check_root hck
  refine bodyPost_ret (v := .agg #[.int .i64 tl.sym, .int .i64 tl.prod, .slice tl.a tl.kids.length tl.c]) ?_ hd ⟨hb, tl, rfl, hl, by rw [hroot]; exact hck, Nat.le_trans hsz (bnd_le hd5), by rw [hroot]; exact hs⟩
  rw [results_cell1 (p := 10) (ty := 71) rfl, ha]
  show ((asAddr (.pointer (some ⟨w.heap.size + 1, 0, none⟩))).run _ _).andThen _ = _
  exact run_loadVar_row _ (w.heap.size + 1) 71 71 _ (0, 0) _ hq Try.underlying71 rfl (by kernel_rfl)
theorem of_end1 {g : Gr} {w w4 : World} {tl : Tl} {d n : Nat} {sym : Int} {u0 u1 u2 : Value} {o : Obj} (hn : w.heap.size + 1 < n) (hb : Below w.heap.size w w4) (h8 : w4.heap[w.heap.size + 1]? = some (.cells #[u0, u1, u2] 71)) (hl : Lies (fun b => n ≤ b) w4 tl) (hck : checkT g tl.plain sym = true) (hsz : sizeT tl.plain ≤ bndT d) (hd5 : d ≤ 5) (hs : 100 ≤ sym) (a : Act) (ha : a.tmps.getD 10 undef = .pointer (some ⟨w.heap.size + 1, 0, none⟩)) (hd : a.defers = []) :
    bodyPost Try.prog Try.f39 (OfEnd g w) .ret a ((((w4.setCell ⟨w.heap.size + 1, 0, none⟩ (.int .i64 tl.sym)).setCell ⟨w.heap.size + 1, 1, none⟩ (.int .i64 tl.prod)).setCell ⟨w.heap.size + 1, 2, none⟩ (.slice tl.a tl.kids.length tl.c)).alloc o) := by
  have h3 : Below w.heap.size w (((w4.setCell ⟨w.heap.size + 1, 0, none⟩ (.int .i64 tl.sym)).setCell ⟨w.heap.size + 1, 1, none⟩ (.int .i64 tl.prod)).setCell ⟨w.heap.size + 1, 2, none⟩ (.slice tl.a tl.kids.length tl.c)) := store3_below hb (Nat.le_succ _) _ _ _
  have hq := store3 h8 (.int .i64 tl.sym) (.int .i64 tl.prod) (.slice tl.a tl.kids.length tl.c)
  have hl3 : Lies (fun b => w.heap.size ≤ b) (((w4.setCell ⟨w.heap.size + 1, 0, none⟩ (.int .i64 tl.sym)).setCell ⟨w.heap.size + 1, 1, none⟩ (.int .i64 tl.prod)).setCell ⟨w.heap.size + 1, 2, none⟩ (.slice tl.a tl.kids.length tl.c)) tl := hl.keep (by simp [World.setCell]) (fun b hb _ => store3_far _ _ _ b (by omega)) (fun b hb _ => by omega)
  exact of_end (h3.alloc h3.size o) ((Below.heap_alloc _ _ _ (heap_lt hq)).trans hq) (hl3.under ((Below.refl _ _).alloc (Nat.le_refl _) _)) hck hsz hd5 hs a ha hd
theorem of_end2 {g : Gr} {w w4 : World} {tl : Tl} {d n K : Nat} {sym : Int} {u0 u1 u2 v0 v1 v2 : Value} (hK : w.heap.size + 1 < K) (hn : K < n) (hb : Below w.heap.size w w4) (h8 : w4.heap[w.heap.size + 1]? = some (.cells #[u0, u1, u2] 71)) (hl : Lies (fun b => n ≤ b) w4 tl) (hck : checkT g tl.plain sym = true) (hsz : sizeT tl.plain ≤ bndT d) (hd5 : d ≤ 5) (hs : 100 ≤ sym) (a : Act) (ha : a.tmps.getD 10 undef = .pointer (some ⟨w.heap.size + 1, 0, none⟩)) (hd : a.defers = []) :
    bodyPost Try.prog Try.f39 (OfEnd g w) .ret a ((((((w4.setCell ⟨K, 0, none⟩ v0).setCell ⟨K, 1, none⟩ v1).setCell ⟨K, 2, none⟩ v2).setCell ⟨w.heap.size + 1, 0, none⟩ (.int .i64 tl.sym)).setCell ⟨w.heap.size + 1, 1, none⟩ (.int .i64 tl.prod)).setCell ⟨w.heap.size + 1, 2, none⟩ (.slice tl.a tl.kids.length tl.c)) := by
  have hl3 : Lies (fun b => n ≤ b) (((w4.setCell ⟨K, 0, none⟩ v0).setCell ⟨K, 1, none⟩ v1).setCell ⟨K, 2, none⟩ v2) tl := hl.keep (by simp [World.setCell]) (fun b hb _ => store3_far _ _ _ b (by omega)) (fun b hb _ => hb)
  have h3 : Below w.heap.size w (((w4.setCell ⟨K, 0, none⟩ v0).setCell ⟨K, 1, none⟩ v1).setCell ⟨K, 2, none⟩ v2) := store3_below hb (by omega) _ _ _
  have h83 : (((w4.setCell ⟨K, 0, none⟩ v0).setCell ⟨K, 1, none⟩ v1).setCell ⟨K, 2, none⟩ v2).heap[w.heap.size + 1]? = some (.cells #[u0, u1, u2] 71) := (store3_far _ _ _ _ (by omega)).trans h8
  exact of_end (store3_below h3 (Nat.le_succ _) _ _ _) (store3 h83 _ _ _) (hl3.keep (by simp [World.setCell]) (fun b hb _ => store3_far _ _ _ b (by omega)) (fun b hb _ => by omega)) hck hsz hd5 hs a ha hd

set_option maxRecDepth 100000 in
set_option maxHeartbeats 8000000 in
theorem treeOf_any (g : Gr) (hcg : CheckG g) (a1 a2 a3 : Option Addr) (c1 c2 c3 : Nat) (a : Option Addr) (c : Nat) (zs : List Int) (deep how at_ : Int) (w : World) (hg : GramAt w (.agg #[.slice a1 g.terms.length c1, .slice a2 g.nons.length c2, .slice a3 g.prods.length c3]) g) (hz : Cells w a (nums zs)) (hzc : zs.length ≤ c) (hcm : c ≤ 140737488355328) (hwz : ∀ z ∈ zs, -9223372036854775808 ≤ z ∧ z ≤ 9223372036854775807) (hh : (how.tmod 4 == 3) = false) :
    Calls Try.prog 39 #[.agg #[.slice a1 g.terms.length c1, .slice a2 g.nons.length c2, .slice a3 g.prods.length c3], .slice a zs.length c, .int .i64 deep, .int .i64 how, .int .i64 at_] w (OfEnd g w) := by
  obtain ⟨d, hd, hdl⟩ : ∃ d : Nat, deep % 6 = d ∧ d < 6 := ⟨(deep % 6).toNat, by omega, by omega⟩
  have HWD := Lib.hid fun W => (within_any deep 6 (by omega) (by omega) W).mono fun e w' ⟨he, hw⟩ => (⟨he.trans (by rw [hd]), hw⟩ : e = Ending.returned (.int .i64 d) ∧ w' = W)
  obtain ⟨hbS, hsS, q0, q1⟩ := twin_alloc w (.cells #[.slice a1 g.terms.length c1, .slice a2 g.nons.length c2, .slice a3 g.prods.length c3] 28) (.cells #[.int .i64 0, .int .i64 0, .slice none 0 0] 71)
  have hn1 := hcg.n1
  have hn8 := hcg.n8
  have HT := Lib.hid fun (sym : Int) (hs : symB g sym = true) (W : World) (hW : Below w.heap.size w W) => ptree_any g hcg a1 a2 a3 c1 c2 c3 d (by omega) sym a c zs W hs (hg.below hW) (hz.below hW) hzc hcm
  have HCG := Lib.hid hcg
  have HB := Lib.hid hbS
  have HQ1 := Lib.hid q1
  have HQ0 := Lib.hid q0
  have hdl' : Hid (d ≤ 5) := Lib.hid (by omega)
  obtain ⟨g0, _⟩ := blk_cell (i := 0) q0 rfl
  obtain ⟨g1, _⟩ := blk_cell (i := 1) q0 rfl
  obtain ⟨g2, _⟩ := blk_cell (i := 2) q0 rfl
  have l0 := heap_lt q0
  have e1 : ((g.nons.length : Int) == 0) = false := by rw [beq_eq_false_iff_ne]; omega
  clear hd hdl hbS q0 q1 hsS hg hcg
  have hh2 := hh
  go_enter Try.func39, Try.ntmps39
  go_upto_region 1 with fail
  generalize (w.alloc (.cells #[.slice a1 g.terms.length c1, .slice a2 g.nons.length c2, .slice a3 g.prods.length c3] 28)).alloc (.cells #[.int .i64 0, .int .i64 0, .slice none 0 0] 71) = S at *
  go_upto_if 21 with fail
  go_cut [11, 21] from 22 to 31 (fun v _ wx => ∃ sym : Int, v = .int .i64 sym ∧ Hid (100 ≤ sym ∧ sym < 100 + (g.nons.length : Int)) ∧ Hid (Below S.heap.size S wx))
  case first =>
    cases zs with
    | nil =>
      go_wp2_with fail
      go_meet
      case rel => exact ⟨100, rfl, Lib.hid ⟨by omega, by omega⟩, Lib.hid (Below.refl _ _)⟩
    | cons z zt =>
      obtain ⟨b, off, rfl, hbl, hz0, _⟩ := cells_tail (hz.below HB.out)
      have hwz1 := hwz z List.mem_cons_self
      have hwr := wrap_tdiv7 z hwz1.1 hwz1.2
      obtain ⟨m, hm, hml⟩ : ∃ m : Nat, z.tdiv 7 % (g.nons.length : Int) = m ∧ m < g.nons.length := ⟨(z.tdiv 7 % (g.nons.length : Int)).toNat, by have := Int.emod_nonneg (z.tdiv 7) (show (g.nons.length : Int) ≠ 0 by omega); omega, by have := Int.emod_nonneg (z.tdiv 7) (show (g.nons.length : Int) ≠ 0 by omega); have := Int.emod_lt_of_pos (z.tdiv 7) (show (0 : Int) < g.nons.length by omega); omega⟩
      have HWI := Lib.hid fun W => (within_any (z.tdiv 7) g.nons.length (by omega) (by omega) W).mono fun e w' ⟨he, hw⟩ => (⟨he.trans (by rw [hm]), hw⟩ : e = Ending.returned (.int .i64 m) ∧ w' = W)
      have hsum : IntKind.i64.wrap (100 + (m : Int)) = 100 + m := IntWalk.i64_in _ (by omega)
      have hzl1 : (0 : Int) < (zt.length : Int) + 1 := by omega
      have hzl2 : 0 < zt.length + 1 := by omega
      have HML := Lib.hid hml
      clear hm hml hwz1 hwz
      simp only [List.length_cons]
      go_upto_region 5 with fail
      go_quiet ((go_at_call 27; exact Calls.quiet_of_same (HWI.out _)))
      go_wp2_with fail
      go_meet
      case rel => exact ⟨100 + m, rfl, Lib.hid ⟨by omega, by have := HML.out; omega⟩, Lib.hid (below_drews (Below.refl _ _) _)⟩
  case rest =>
    obtain ⟨sym, rfl, HSY, HBX⟩ := hcut
    rename World => wx
    have hs1 := HSY.out
    have hsb : symB g sym = true := by unfold symB nonB; simp; omega
    have HTS := Lib.hid fun W hW => HT.out sym hsb W hW
    unfold PTreeEnd at HTS
    have HBW := Lib.hid (HB.out.trans (HBX.out.mono HB.out.size))
    have q0 := (HBX.out.block _ (heap_lt HQ0.out)).trans HQ0.out
    have HQ8 := Lib.hid ((HBX.out.block _ (heap_lt HQ1.out)).trans HQ1.out)
    have HWL : Hid (w.heap.size + 1 < wx.heap.size) := Lib.hid (heap_lt HQ8.out)
    clear g0 g1 g2 l0 HT hsb
    have g0 := (blk_cell (i := 0) q0 rfl).1
    have g1 := (blk_cell (i := 1) q0 rfl).1
    have g2 := (blk_cell (i := 2) q0 rfl).1
    have l0 := heap_lt q0
    clear q0
    go_upto_region 6 with fail
    go_region_with (first
      | (go_at_call 27; (with_reducible refine (HWD.out _).mono ?_); rintro e w3 ⟨rfl, hw3⟩; rw [hw3]; clear hw3)
      | (go_at_call 81; (with_reducible refine (HTS.out _ HBW.out.drew).mono ?_); rintro e w4 ⟨hb4, tl, a4, c4, zs4, rfl, hli, hck, hsz, _, _, _⟩; have HWD1 : Hid (w.heap.size + 1 < wx.drew.heap.size) := HWL; have HB4 := Lib.hid (HBW.out.drew.trans (Below.mono hb4 HBW.out.size)); have r8 := (hb4.block (w.heap.size + 1) (show w.heap.size + 1 < wx.heap.size from HWL.out)).trans HQ8.out; obtain ⟨z0, v0⟩ := blk_cell (i := 0) r8 rfl; obtain ⟨z1, v1⟩ := blk_cell (i := 1) r8 rfl; obtain ⟨z2, v2⟩ := blk_cell (i := 2) r8 rfl; have l8 := heap_lt r8; have HL8 := Lib.hid r8; have HLI := Lib.hid hli; clear r8 hli; have hne1 : ¬ w.heap.size + 1 = w4.heap.size := (by omega); have hne2 : ¬ w4.heap.size = w.heap.size + 1 := (by omega))
      | (go_at_call 81; (with_reducible refine (HTS.out _ (HBW.out.alloc HBW.out.size (.cells #[.int .i64 0, .int .i64 0, .slice none 0 0] 71)).drew).mono ?_); rintro e w4 ⟨hb4, tl, a4, c4, zs4, rfl, hli, hck, hsz, _, _, _⟩; have HKN : Hid (wx.heap.size < (wx.alloc (.cells #[.int .i64 0, .int .i64 0, .slice none 0 0] 71)).drew.heap.size) := Lib.hid (by show wx.heap.size < (wx.alloc (.cells #[.int .i64 0, .int .i64 0, .slice none 0 0] 71)).heap.size; simp); have HB4 := Lib.hid ((HBW.out.alloc HBW.out.size (.cells #[.int .i64 0, .int .i64 0, .slice none 0 0] 71)).drew.trans (Below.mono hb4 (HBW.out.alloc HBW.out.size (.cells #[.int .i64 0, .int .i64 0, .slice none 0 0] 71)).size)); have r12 := (hb4.block wx.heap.size (by simp)).trans (heap_alloc_new wx (.cells #[.int .i64 0, .int .i64 0, .slice none 0 0] 71)); obtain ⟨y0, x0⟩ := blk_cell (i := 0) r12 rfl; obtain ⟨y1, x1⟩ := blk_cell (i := 1) r12 rfl; obtain ⟨y2, x2⟩ := blk_cell (i := 2) r12 rfl; have l12 := heap_lt r12; clear r12; have r8 := (hb4.block (w.heap.size + 1) (show w.heap.size + 1 < (wx.alloc (.cells #[.int .i64 0, .int .i64 0, .slice none 0 0] 71)).heap.size by have := HWL.out; simp; omega)).trans ((Below.heap_alloc wx (.cells #[.int .i64 0, .int .i64 0, .slice none 0 0] 71) (w.heap.size + 1) HWL.out).trans HQ8.out); obtain ⟨z0, v0⟩ := blk_cell (i := 0) r8 rfl; obtain ⟨z1, v1⟩ := blk_cell (i := 1) r8 rfl; obtain ⟨z2, v2⟩ := blk_cell (i := 2) r8 rfl; have l8 := heap_lt r8; have HL8 := Lib.hid r8; have HLI := Lib.hid hli; clear r8 hli; have hne1 : ¬ w.heap.size + 1 = wx.heap.size := (by have := HWL.out; omega); have hne2 : ¬ wx.heap.size = w.heap.size + 1 := (by have := HWL.out; omega)))
    all_goals
      have HCK := Lib.hid hck
      have HSZ := Lib.hid hsz
      clear hck hsz
      go_wp2
      first
        | ((with_reducible refine of_end1 HWL.out HB4.out HL8.out HLI.out HCK.out HSZ.out hdl'.out HSY.out.1 _ ?_ ?_) <;> rfl)
        | ((with_reducible refine of_end1 HWD1.out HB4.out HL8.out HLI.out HCK.out HSZ.out hdl'.out HSY.out.1 _ ?_ ?_) <;> rfl)
        | ((with_reducible refine of_end2 HWL.out HKN.out HB4.out HL8.out HLI.out HCK.out HSZ.out hdl'.out HSY.out.1 _ ?_ ?_) <;> rfl)

end Go.Proofs.Ytflfmcikfiaoiaa
