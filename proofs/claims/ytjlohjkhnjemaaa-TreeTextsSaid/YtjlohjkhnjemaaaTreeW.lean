/- Trees: the document's example: over any world. -/
import Derived.Test.YtjlohjkhnjemaaaTreeT
import Derived.Test.YtjlohjkhnjemaaaTreeF
import Derived.Test.YtjlohjkhnjemaaaTreeD
import Derived.Test.YtjlohjkhnjemaaaPlay
set_option linter.unusedVariables false
namespace Go.Proofs.Ytjlohjkhnjemaaa
open Go.RowKit
open Doc

def wkG : Gr := ⟨[[97], [98]], [[83]], [(100, [1, 100]), (100, [2])]⟩
def wkT : Tr := .mk 100 0 [.mk 1 (-1) [], .mk 100 1 [.mk 2 (-1) []]]
def wkS : List UInt8 := [40, 83, 32, 97, 32, 40, 83, 32, 98, 41, 41]
theorem wk_read : readG wkG wkS = some wkT := by rfl
theorem wk_check : checkT wkG wkT 100 = true := by rfl
theorem wk_print : printT wkG wkT = wkS := by decide +kernel
theorem wk_leaves : leavesT wkT = [1, 2] := by decide +kernel
theorem wk_size : sizeT wkT = 4 := by decide +kernel
theorem wk_mild : mildT wkT := by simp [wkT, mildT, mildK, mildI]
theorem wk_fits : Fits wkG := by refine ⟨by decide, by decide, by decide, by decide⟩
theorem wk_short : ShortN wkG := by refine ⟨by decide, by decide⟩
theorem wk_asc : Asc ⟨wkS.toArray⟩ := fun j b hj => by
  have hm : b ∈ wkS := List.mem_of_getElem? hj
  clear hj
  revert b
  decide
theorem good1_any (w : World) : Calls Try.prog 62 #[.int .i64 1] w fun e w' => Below w.heap.size w w' ∧ ∃ (a1 a2 a3 : Option Addr) (c1 c2 c3 : Nat), e = .returned (.agg #[.slice a1 2 c1, .slice a2 1 c2, .slice a3 2 c3]) ∧ GramAt w' (.agg #[.slice a1 2 c1, .slice a2 1 c2, .slice a3 2 c3]) wkG := by
  refine (good_any 1 w).mono ?_
  rintro e w' ⟨hb, ts, ns, ls, at_, an, ap, ct, cn, cp, he, hr, hp⟩
  have hw : parse [83, 58, 32, 97, 32, 83, 32, 124, 32, 98, 10] = .ok wkG := by decide +kernel
  have hg : (⟨ts, ns, ls.map Lay.plain⟩ : Gr) = wkG := End.ok.inj (hp.symm.trans hw)
  have h1 : ts = [[97], [98]] := congrArg Gr.terms hg
  have h2 : ns = [[83]] := congrArg Gr.nons hg
  have h3 : ls.length = 2 := by
    have := congrArg (fun g : Gr => g.prods.length) hg
    simp only [List.length_map] at this
    exact this
  have hgr := hr.gram
  rw [hg] at hgr
  subst h1
  subst h2
  rw [h3] at he hgr
  exact ⟨hb, at_, an, ap, ct, cn, cp, he, hgr⟩

set_option maxRecDepth 100000 in
set_option maxHeartbeats 4000000 in
theorem wakes8_any (w : World) : Calls Try.prog 51 #[] w fun e w' => e = .returned (.bool true) ∧ Below w.heap.size w w' := by
  have HGO := Lib.hid (good1_any w)
  go_enter Try.func51, Try.ntmps51
  go_upto_region 2 with (go_at_call 62; refine HGO.out.mono ?_; rintro e w1 ⟨hb1, a1, a2, a3, c1, c2, c3, rfl, hg1⟩)
  obtain ⟨hbA, _, qA⟩ := one_alloc w1 (.cells #[.slice a1 2 c1, .slice a2 1 c2, .slice a3 2 c3] 28)
  have HG := Lib.hid (hg1.below hbA)
  have HQ := Lib.hid qA
  have HB := Lib.hid (hb1.trans (hbA.mono hb1.size))
  have HPA := Lib.hid (tparse_ok _ wkG ⟨wkS.toArray⟩ wkT _ HG.out wk_fits wk_asc (by decide) wk_read)
  clear hb1 hg1 hbA qA HGO
  generalize w1.alloc (.cells #[.slice a1 2 c1, .slice a2 1 c2, .slice a3 2 c3] 28) = S at *
  generalize w1.heap.size = BG at *
  have g0 := (blk_cell (i := 0) HQ.out rfl).1
  have g1 := (blk_cell (i := 1) HQ.out rfl).1
  have g2 := (blk_cell (i := 2) HQ.out rfl).1
  have lG := heap_lt HQ.out
  go_upto_region 3 with (go_at_call 45; refine HPA.out.mono ?_; rintro e w2 ⟨hb2, tl, hpl, rfl, hli⟩)
  obtain ⟨hbT, _, qT⟩ := one_alloc w2 (.cells #[.int .i64 tl.sym, .int .i64 tl.prod, .slice tl.a tl.kids.length tl.c] 79)
  have hb2T := hb2.trans (hbT.mono hb2.size)
  have HG2 := Lib.hid (HG.out.below hb2T)
  have HQ2 := Lib.hid ((hb2T.block _ lG).trans HQ.out)
  have HQT := Lib.hid qT
  have HB2 := Lib.hid (HB.out.trans (hb2T.mono HB.out.size))
  have HL2 := Lib.hid (hli.under hbT)
  have HPL := Lib.hid hpl
  clear hb2 hbT hb2T qT hli hpl g0 g1 g2 lG HPA
  generalize w2.alloc (.cells #[.int .i64 tl.sym, .int .i64 tl.prod, .slice tl.a tl.kids.length tl.c] 79) = S2 at *
  generalize w2.heap.size = BT at *
  have hsz : sizeT tl.plain ≤ 9600 := by rw [HPL.out, wk_size]; decide
  have HCL : Hid (∀ W, Below S2.heap.size S2 W → (W.cell? ⟨BG, 0, none⟩ = some (.slice a1 2 c1) ∧ W.cell? ⟨BG, 1, none⟩ = some (.slice a2 1 c2) ∧ W.cell? ⟨BG, 2, none⟩ = some (.slice a3 2 c3) ∧ W.cell? ⟨BT, 0, none⟩ = some (.int .i64 tl.sym) ∧ W.cell? ⟨BT, 1, none⟩ = some (.int .i64 tl.prod) ∧ W.cell? ⟨BT, 2, none⟩ = some (.slice tl.a tl.kids.length tl.c)) ∧ BG < W.heap.size ∧ BT < W.heap.size) := Lib.hid fun W hW => by
    have z0 := (hW.block _ (heap_lt HQ2.out)).trans HQ2.out
    have z1 := (hW.block _ (heap_lt HQT.out)).trans HQT.out
    exact ⟨⟨(blk_cell z0 rfl).1, (blk_cell z0 rfl).1, (blk_cell z0 rfl).1, (blk_cell z1 rfl).1, (blk_cell z1 rfl).1, (blk_cell z1 rfl).1⟩, heap_lt z0, heap_lt z1⟩
  have HCK := Lib.hid (tcheck_any tl _ _ wkG 100 S2 HG2.out wk_fits HL2.out (by rw [HPL.out]; exact wk_mild) (by omega))
  have HPR := Lib.hid fun W (hW : Below S2.heap.size S2 W) => tprint_any tl _ _ wkG W (HG2.out.below hW) wk_fits wk_short (HL2.out.under hW) (by rw [HPL.out]; exact wk_mild) hsz
  have HLV := Lib.hid fun W (hW : Below S2.heap.size S2 W) => tleaves_any tl _ W (HL2.out.under hW) (by omega)
  rw [HPL.out] at HCK HPR HLV
  rw [wk_check] at HCK
  rw [wk_print] at HPR
  rw [wk_leaves] at HLV
  have HKS := Lib.hid fun (a b : Option Addr) (ca cb : Nat) (W : World) (h1 : Cells W a (nums [1, 2])) (h2 : Cells W b (nums [1, 2])) => (keepSame_any a b ca cb [1, 2] [1, 2] W h1 h2 (by decide) (by decide)).mono fun e w' ⟨he, hw⟩ => (⟨he.trans (by rw [decide_eq_true rfl]), hw⟩ : e = Ending.returned (.bool true) ∧ ∃ n, w' = W.drewN n)
  obtain ⟨⟨g0, g1, g2, t0, t1, t2⟩, lG, lT⟩ := HCL.out S2 (Below.refl _ _)
  unfold Tl.v at HCK HPR HLV
  unfold wkS at HPR
  clear HG HQ HB hsz
  go_wp2_with (first
    | (go_at_call 46; refine HCK.out.mono ?_; rintro e w3 ⟨rfl, hb3⟩; clear g0 g1 g2 t0 t1 t2 lG lT; obtain ⟨⟨g0, g1, g2, t0, t1, t2⟩, lG, lT⟩ := HCL.out _ hb3)
    | (go_at_call 47; refine (HPR.out _ hb3).mono ?_; rintro e w4 ⟨rfl, hb4⟩; have hb34 := hb3.trans (hb4.mono hb3.size); clear g0 g1 g2 t0 t1 t2 lG lT; obtain ⟨⟨g0, g1, g2, t0, t1, t2⟩, lG, lT⟩ := HCL.out _ hb34)
    | (go_at_call 48; refine (HLV.out _ hb34).mono ?_; rintro e w5 ⟨hb5, a5, c5, rfl, ho5⟩; have HC5 := Lib.hid (own_cells ho5).1; have HO5 := Lib.hid ho5; clear ho5)
    | (go_at_call 37; refine (HKS.out _ _ _ _ _ (HC5.out.below (box_belowT _ _)) (cells_new _ #[.int .i64 1, .int .i64 2] 3)).mono ?_; rintro e w6 ⟨rfl, n6, rfl⟩))
  go_ret
  exact ⟨rfl, below_drews (((HB2.out.trans (hb34.mono HB2.out.size)).trans (hb5.mono (Nat.le_trans HB2.out.size hb34.size))).alloc (Nat.le_trans HB2.out.size (Nat.le_trans hb34.size hb5.size)) _) _⟩

end Go.Proofs.Ytjlohjkhnjemaaa
