/- LangForms, walked. -/
import Derived.Test.YtfchfnhjpndpgaaDoorLAsk
import Derived.Test.YtfchfnhjpndpgaaDoorLFormW
import Derived.Test.YtfchfnhjpndpgaaDoorTrkW4
import Derived.Deep.RegionHeld3
set_option linter.unusedVariables false
namespace Go.Proofs.YtfchfnhjpndpgaaDoor
open Go.RowKit
open Doc

theorem gform3 {w : World} {v : Value} {g : Gr} (h : GramAt w v g) : ∃ a1 a2 a3 c1 c2 c3, v = .agg #[.slice a1 g.terms.length c1, .slice a2 g.nons.length c2, .slice a3 g.prods.length c3] := by
  obtain ⟨a1, a2, a3, c1, c2, c3, ls, rfl, hp, _⟩ := h
  have hpl : ls.length = g.prods.length := by rw [← hp, List.length_map]
  exact ⟨a1, a2, a3, c1, c2, c3, by rw [hpl]⟩
set_option maxRecDepth 100000 in
set_option maxHeartbeats 100000000 in
theorem langForms_walk (mst : Int) (w : World) (hT : Tab32 w) :
    Calls Tryd.prog 3 #[.int .i64 mst] w fun e w' => e = .returned (.bool true) ∧ Below w.heap.size w w' := by
  have HP1 := Lib.hid (rparse_ok ⟨#[83, 58, 32, 97, 32, 83, 32, 98, 32, 124, 32, 99, 32, 124, 32, 97, 32, 85, 10, 85, 58, 32, 85, 32, 97, 10]⟩ ff w (by decide) ff_parse)
  have HP2 := Lib.hid fun W => rparse_ok ⟨#[83, 58, 32, 83, 32, 97, 10]⟩ fn W (by decide) fn_parse
  obtain ⟨m, hm, hml⟩ : ∃ v : Nat, mst % 5 = v ∧ v < 5 := ⟨(mst % 5).toNat, by omega, by omega⟩
  have HW1 := Lib.hid fun W => (within_any mst 5 (by omega) (by omega) W).mono fun e w' h => (⟨h.1.trans (by rw [hm]), h.2⟩ : e = Ending.returned (.int .i64 m) ∧ w' = W)
  have HTT := Lib.hid hT
  clear hm hT
  go_enter Tryd.func3, Tryd.ntmps3
  go_upto_region 2 with (go_at_call 12; refine HP1.out.mono ?_; rintro e w1 ⟨v, rfl, hb1, hg1⟩; obtain ⟨a1, a2, a3, c1, c2, c3, rfl⟩ := gform3 hg1.at_)
  have hbS : Below w1.heap.size w1 (w1.alloc (.cells #[.slice a1 ff.terms.length c1, .slice a2 ff.nons.length c2, .slice a3 ff.prods.length c3] 25)) := (Below.refl _ _).alloc (Nat.le_refl _) _
  have q0 := heap_alloc_new w1 (.cells #[.slice a1 ff.terms.length c1, .slice a2 ff.nons.length c2, .slice a3 ff.prods.length c3] 25)
  have HG := Lib.hid (hg1.at_.below hbS)
  have HBA := Lib.hid (hb1.trans (hbS.mono hb1.size))
  have HQ0 := Lib.hid q0
  clear hb1 hg1 hbS q0 HP1
  generalize w1.alloc (.cells #[.slice a1 ff.terms.length c1, .slice a2 ff.nons.length c2, .slice a3 ff.prods.length c3] 25) = S at *
  generalize w1.heap.size = B1 at *
  have hl1 : B1 < S.heap.size := heap_lt HQ0.out
  have HCX := Lib.hid fun (W : World) (hW : Below S.heap.size S W) => (⟨(blk_cell (i := 0) ((hW.block B1 hl1).trans HQ0.out) rfl).1, (blk_cell (i := 1) ((hW.block B1 hl1).trans HQ0.out) rfl).1, (blk_cell (i := 2) ((hW.block B1 hl1).trans HQ0.out) rfl).1, heap_lt ((hW.block B1 hl1).trans HQ0.out)⟩ : W.cell? ⟨B1, 0, none⟩ = some (.slice a1 ff.terms.length c1) ∧ W.cell? ⟨B1, 1, none⟩ = some (.slice a2 ff.nons.length c2) ∧ W.cell? ⟨B1, 2, none⟩ = some (.slice a3 ff.prods.length c3) ∧ B1 < W.heap.size)
  have HTS := Lib.hid (HTT.out.below HBA.out)
  go_upto_region 5 with fail
  have e := (rfl : wantW S = wantW S)
  conv at e => lhs; unfold wantW
  rw [e]
  clear e
  obtain ⟨hbW, hsW, hWF⟩ := want_facts S
  have HWF := Lib.hid hWF
  have HBW := Lib.hid hbW
  have hsW' : S.heap.size + 3 < (wantW S).heap.size := by omega
  clear hWF hbW hsW
  generalize wantW S = S4 at *
  generalize S.heap.size + 3 = WB at *
  have HD1 := Lib.hid (lwords_any _ ff 6 m S4 (HG.out.below HBW.out) ff_check (by omega) (by omega) (HTS.out.below HBW.out))
  obtain ⟨x0, x1, x2, x3⟩ := HCX.out S4 HBW.out
  go_upto_region 7 with (first
    | (go_at_call 13; (with_reducible refine (HW1.out _).mono ?_); rintro e w9 ⟨rfl, hw9⟩; obtain rfl := hw9.symm)
    | (go_at_call 14; refine HD1.out.mono ?_; rintro e w5 ⟨hb5, aa, ac, R, rfl, hR, ba1, hba1, hGR⟩))
  have hR2 : R.map (·.row) = ffW.take m := by rw [hR]; exact congrArg (fun l => l.take m) ff_words
  have HR := Lib.hid hR2
  have HRL := Lib.hid (show R.length = min m 3 by rw [← List.length_map (f := fun x : RowL => x.row), hR2, List.length_take]; rfl)
  have HGR := Lib.hid hGR
  have HB45 := Lib.hid hb5
  have HB5 := Lib.hid (HBW.out.trans (hb5.mono HBW.out.size))
  clear hR hR2 hGR hb5 HD1 HW1 x0 x1 x2 x3
  go_cut [8, 45] from 37 to 45 (fun lv b wx => lv = .slice aa R.length ac ∧ b = .bool false ∧ wx = w5)
  case first =>
    by_cases hq : (R.length : Int) = min (m : Int) 3
    · go_wp2
      all_goals
        go_meet
        case rel => exact ⟨rfl, rfl, rfl⟩
    · exfalso
      have := HRL.out
      omega
  case rest =>
  obtain ⟨rfl, rfl, hw5⟩ := hcut
  obtain rfl := hw5.symm
  clear hw5
  go_wp2_with fail
  go_loopw [48] (fun i wr => ∃ k q : Nat, k ≤ R.length ∧ i = .int .i64 k ∧ Hid (wr = w5.drewN q)) (fun i _ => R.length - (intOf i).toNat)
  case atStart => exact ⟨0, 0, by omega, rfl, Lib.hid rfl⟩
  case round =>
    obtain ⟨k, q, hk, rfl, HWR⟩ := hrel
    have hBr : Below w5.heap.size w5 wr := HWR.out ▸ below_drews (Below.refl _ _) q
    by_cases hlt : k < R.length
    · obtain ⟨r, hr⟩ : ∃ r, R[k]? = some r := ⟨_, List.getElem?_eq_getElem hlt⟩
      have hrx : (ffW.take m)[k]? = some r.row := by rw [← HR.out, List.getElem?_map, hr]; rfl
      have hrx2 : ffW[k]? = some r.row := by
        rw [List.getElem?_take] at hrx
        split at hrx
        · exact hrx
        · cases hrx
      have hrl : r.row.length ≤ 5 := by
        have hmem := List.mem_of_getElem? hrx2
        simp only [ffW, List.mem_cons, List.not_mem_nil, or_false] at hmem
        rcases hmem with h | h | h <;> rw [h] <;> decide
      obtain ⟨wa, wc, hwc1, hwc2⟩ := HWF.out k _ hrx2
      have hBr4 : Below S4.heap.size S4 wr := HB45.out.trans (hBr.mono HB45.out.size)
      have x1 : wr.cell? ⟨WB, k, none⟩ = some (.slice wa r.row.length wc) := by rw [hBr4.cell (by show WB < S4.heap.size; exact hsW')]; exact hwc1
      obtain ⟨b, off, rfl, hb, hc⟩ := ((own_cells HGR.out.own).1.below hBr).get (by intro e; have := rowVs_at hr; rw [e] at this; simp at this)
      have x0 := hc _ _ (rowVs_at hr)
      have e1 : (k : Int) < R.length := by omega
      have e2 : (k : Int) < 3 := by have := HRL.out; omega
      have HSM := Lib.hid fun (a : Nat) => ((keepSame2_any r.addr wa r.cap wc r.row r.row (wr.drewN a) (((HGR.out.rows r (List.mem_of_getElem? hr)).below hBr).below (below_drews (Below.refl _ _) a)) ((hwc2.below hBr4).below (below_drews (Below.refl _ _) a)) (by omega) (by omega)).mono fun e w' ⟨he, m, hw⟩ => ⟨he.trans (by simp), _, hw.trans (World.drewN_drewN ..)⟩ : Calls Tryd.prog 15 #[.slice r.addr r.row.length r.cap, .slice wa r.row.length wc] (wr.drewN a) fun e w' => e = .returned (.bool true) ∧ ∃ m, w' = wr.drewN m)
      clear hc hr hrx hrx2 hwc1 hwc2 hBr hBr4
      obtain ⟨ra, rc, rr⟩ := r
      simp only at *
      go_wp2_with fail
      go_quiet ((go_at_call 15; exact HSM.out _))
      go_wp2
      go_roundw
      case rel => exact ⟨k + 1, q + nq, by omega, by go_num, Lib.hid (by rw [HWR.out, World.drewN_drewN])⟩
      case measure => simp [intOf]; omega
    · have hkl : k = R.length := by omega
      have e1 : ¬ (k : Int) < R.length := by omega
      have HBR := Lib.hid (HB5.out.trans (hBr.mono HB5.out.size))
      have hmk := fun W => make13 W
      clear hkl hlt hBr HWR HGR HR HRL HWF HB45
      go_upto_region 16 with fail
      have e := (rfl : tabW wr = tabW wr)
      conv at e => lhs; unfold tabW
      rw [e]
      clear e hmk
      obtain ⟨hbT, hsT, hTF⟩ := tab_facts wr
      have HTF := Lib.hid hTF
      have HB6 := Lib.hid (HBR.out.trans (hbT.mono HBR.out.size))
      have hsT' : wr.heap.size + 10 < (tabW wr).heap.size := by omega
      clear hTF hbT hsT
      generalize tabW wr = S5 at *
      generalize wr.heap.size + 10 = TB at *
      clear HBR
      go_loopw [85] (fun i wr => ∃ k : Nat, k ≤ 11 ∧ i = .int .i64 k ∧ Hid (Below S5.heap.size S5 wr)) (fun i _ => 11 - (intOf i).toNat)
      case atStart => exact ⟨0, by omega, rfl, Lib.hid (Below.refl _ _)⟩
      case round =>
        obtain ⟨k, hk, rfl, HBE⟩ := hrel
        by_cases hlt : k < 11
        · obtain ⟨⟨xw, xh, xb⟩, hx⟩ : ∃ x, ffT[k]? = some x := ⟨_, List.getElem?_eq_getElem hlt⟩
          obtain ⟨xa, xc, t0, t1, t2, hxc⟩ := HTF.out k _ hx
          have htold := ff_told _ (List.mem_of_getElem? hx)
          have hxl : xw.length ≤ 13 := by
            have hmem := List.mem_of_getElem? hx
            have hall : ∀ x ∈ ffT, x.1.length ≤ 13 := by decide
            exact hall _ hmem
          simp only at t0 t1 t2 hxc htold
          have x0 : wr.cell? ⟨TB, k * 3, none⟩ = some (.slice xa xw.length xc) := by rw [HBE.out.cell (by show TB < S5.heap.size; exact hsT')]; exact t0
          have x1 : wr.cell? ⟨TB, k * 3 + 1, none⟩ = some (.bool xh) := by rw [HBE.out.cell (by show TB < S5.heap.size; exact hsT')]; exact t1
          have x2 : wr.cell? ⟨TB, k * 3 + 2, none⟩ = some (.bool xb) := by rw [HBE.out.cell (by show TB < S5.heap.size; exact hsT')]; exact t2
          have e2 : (k : Int) < 11 := by omega
          have HS6 := Lib.hid (show Below S5.heap.size S5 (wr.alloc (.cells #[.slice xa xw.length xc, .bool xh, .bool xb] 35)) from HBE.out.alloc HBE.out.size _)
          have HQ6 := Lib.hid (heap_alloc_new wr (.cells #[.slice xa xw.length xc, .bool xh, .bool xb] 35))
          have HHA := Lib.hid fun (W : World) (hW : Below S5.heap.size S5 W) => ((lhas_all _ ff xa xc xw W (HG.out.below (HB6.out.trans (hW.mono HB6.out.size))) ff_check (hxc.below hW) (by omega) (HTS.out.below (HB6.out.trans (hW.mono HB6.out.size)))).mono fun e w' h => ⟨h.1.trans (congrArg (fun b => Ending.returned (.bool b)) htold.1), h.2⟩ : Calls Tryd.prog 16 #[_, .slice xa xw.length xc] W fun e w' => e = .returned (.bool xh) ∧ Below W.heap.size W w')
          have HBG := Lib.hid fun (W : World) (hW : Below S5.heap.size S5 W) => ((lbegins_all _ ff xa xc xw W (HG.out.below (HB6.out.trans (hW.mono HB6.out.size))) ff_check (hxc.below hW) (by omega) (HTS.out.below (HB6.out.trans (hW.mono HB6.out.size)))).mono fun e w' h => ⟨h.1.trans (congrArg (fun b => Ending.returned (.bool b)) htold.2), h.2⟩ : Calls Tryd.prog 17 #[_, .slice xa xw.length xc] W fun e w' => e = .returned (.bool xb) ∧ Below W.heap.size W w')
          clear t0 t1 t2 hxc htold hx
          go_upto_region 18 with fail
          generalize wr.alloc (.cells #[.slice xa xw.length xc, .bool xh, .bool xb] 35) = S6 at *
          generalize wr.heap.size = B6 at *
          have hl6 := heap_lt HQ6.out
          have HC6 := Lib.hid fun (W : World) (hW : Below S6.heap.size S6 W) => (⟨(blk_cell (i := 0) ((hW.block B6 hl6).trans HQ6.out) rfl).1, (blk_cell (i := 1) ((hW.block B6 hl6).trans HQ6.out) rfl).1, (blk_cell (i := 2) ((hW.block B6 hl6).trans HQ6.out) rfl).1, heap_lt ((hW.block B6 hl6).trans HQ6.out)⟩ : W.cell? ⟨B6, 0, none⟩ = some (.slice xa xw.length xc) ∧ W.cell? ⟨B6, 1, none⟩ = some (.bool xh) ∧ W.cell? ⟨B6, 2, none⟩ = some (.bool xb) ∧ B6 < W.heap.size)
          have HCG := Lib.hid fun (W : World) (hW : Below S6.heap.size S6 W) => HCX.out W (HB6.out.trans ((HS6.out.trans (hW.mono HS6.out.size)).mono HB6.out.size))
          have HHA6 := Lib.hid fun (W : World) (hW : Below S6.heap.size S6 W) => HHA.out W (HS6.out.trans (hW.mono HS6.out.size))
          have HBG6 := Lib.hid fun (W : World) (hW : Below S6.heap.size S6 W) => HBG.out W (HS6.out.trans (hW.mono HS6.out.size))
          obtain ⟨y0, y1, y2, y3⟩ := HC6.out S6 (Below.refl _ _)
          obtain ⟨z0, z1, z2, z3⟩ := HCG.out S6 (Below.refl _ _)
          clear x0 x1 x2 HHA HBG hl6
          have HBS : Hid (Below S6.heap.size S6 S6) := Lib.hid (Below.refl _ _)
          have HKX : Hid (∀ W W' : World, Hid (Below S6.heap.size S6 W) → Below W.heap.size W W' → ((W'.cell? ⟨B1, 0, none⟩ = some (.slice a1 ff.terms.length c1) ∧ W'.cell? ⟨B1, 1, none⟩ = some (.slice a2 ff.nons.length c2) ∧ W'.cell? ⟨B1, 2, none⟩ = some (.slice a3 ff.prods.length c3)) ∧ (W'.cell? ⟨B6, 0, none⟩ = some (.slice xa xw.length xc) ∧ W'.cell? ⟨B6, 1, none⟩ = some (.bool xh) ∧ W'.cell? ⟨B6, 2, none⟩ = some (.bool xb)) ∧ (B1 < W'.heap.size ∧ B6 < W'.heap.size)) ∧ Hid (Below S6.heap.size S6 W')) := Lib.hid fun W W' h k => by
            have hb := h.out.trans (k.mono h.out.size)
            obtain ⟨g0, g1, g2, g3⟩ := HCG.out W' hb
            obtain ⟨s0, s1, s2, s3⟩ := HC6.out W' hb
            exact ⟨⟨⟨g0, g1, g2⟩, ⟨s0, s1, s2⟩, g3, s3⟩, Lib.hid hb⟩
          cases xh <;> cases xb
          · go_region_held3 (fun w' => ((w'.cell? ⟨B1, 0, none⟩ = some (.slice a1 ff.terms.length c1) ∧ w'.cell? ⟨B1, 1, none⟩ = some (.slice a2 ff.nons.length c2) ∧ w'.cell? ⟨B1, 2, none⟩ = some (.slice a3 ff.prods.length c3)) ∧ (w'.cell? ⟨B6, 0, none⟩ = some (.slice xa xw.length xc) ∧ w'.cell? ⟨B6, 1, none⟩ = some (.bool false) ∧ w'.cell? ⟨B6, 2, none⟩ = some (.bool false)) ∧ (B1 < w'.heap.size ∧ B6 < w'.heap.size)) ∧ Hid (Below S6.heap.size S6 w'))
              (first | (exact HKX.out _ _ HBS (Below.refl _ _).drew) | (exact HKX.out _ _ (And.right (show _ ∧ Hid (Below S6.heap.size S6 _) by assumption)) (by assumption)) | go_keep)
              (first
                | (go_at_call 16; (with_reducible refine (HHA6.out _ (Hid.out (And.right (show _ ∧ Hid (Below S6.heap.size S6 _) by assumption)))).mono ?_); rintro e w7 ⟨rfl, hb7⟩)
                | (go_at_call 17; (with_reducible refine (HBG6.out _ (Hid.out (And.right (show _ ∧ Hid (Below S6.heap.size S6 _) by assumption)))).mono ?_); rintro e w8 ⟨rfl, hb8⟩))
            all_goals
              go_wp2
              go_roundw
              case rel => exact ⟨k + 1, by omega, by go_num, Lib.hid (HS6.out.trans ((Hid.out (And.right (show _ ∧ Hid (Below S6.heap.size S6 _) by assumption))).mono HS6.out.size))⟩
              case measure => simp [intOf]; omega
          · go_region_held3 (fun w' => ((w'.cell? ⟨B1, 0, none⟩ = some (.slice a1 ff.terms.length c1) ∧ w'.cell? ⟨B1, 1, none⟩ = some (.slice a2 ff.nons.length c2) ∧ w'.cell? ⟨B1, 2, none⟩ = some (.slice a3 ff.prods.length c3)) ∧ (w'.cell? ⟨B6, 0, none⟩ = some (.slice xa xw.length xc) ∧ w'.cell? ⟨B6, 1, none⟩ = some (.bool false) ∧ w'.cell? ⟨B6, 2, none⟩ = some (.bool true)) ∧ (B1 < w'.heap.size ∧ B6 < w'.heap.size)) ∧ Hid (Below S6.heap.size S6 w'))
              (first | (exact HKX.out _ _ HBS (Below.refl _ _).drew) | (exact HKX.out _ _ (And.right (show _ ∧ Hid (Below S6.heap.size S6 _) by assumption)) (by assumption)) | go_keep)
              (first
                | (go_at_call 16; (with_reducible refine (HHA6.out _ (Hid.out (And.right (show _ ∧ Hid (Below S6.heap.size S6 _) by assumption)))).mono ?_); rintro e w7 ⟨rfl, hb7⟩)
                | (go_at_call 17; (with_reducible refine (HBG6.out _ (Hid.out (And.right (show _ ∧ Hid (Below S6.heap.size S6 _) by assumption)))).mono ?_); rintro e w8 ⟨rfl, hb8⟩))
            all_goals
              go_wp2
              go_roundw
              case rel => exact ⟨k + 1, by omega, by go_num, Lib.hid (HS6.out.trans ((Hid.out (And.right (show _ ∧ Hid (Below S6.heap.size S6 _) by assumption))).mono HS6.out.size))⟩
              case measure => simp [intOf]; omega
          · go_region_held3 (fun w' => ((w'.cell? ⟨B1, 0, none⟩ = some (.slice a1 ff.terms.length c1) ∧ w'.cell? ⟨B1, 1, none⟩ = some (.slice a2 ff.nons.length c2) ∧ w'.cell? ⟨B1, 2, none⟩ = some (.slice a3 ff.prods.length c3)) ∧ (w'.cell? ⟨B6, 0, none⟩ = some (.slice xa xw.length xc) ∧ w'.cell? ⟨B6, 1, none⟩ = some (.bool true) ∧ w'.cell? ⟨B6, 2, none⟩ = some (.bool false)) ∧ (B1 < w'.heap.size ∧ B6 < w'.heap.size)) ∧ Hid (Below S6.heap.size S6 w'))
              (first | (exact HKX.out _ _ HBS (Below.refl _ _).drew) | (exact HKX.out _ _ (And.right (show _ ∧ Hid (Below S6.heap.size S6 _) by assumption)) (by assumption)) | go_keep)
              (first
                | (go_at_call 16; (with_reducible refine (HHA6.out _ (Hid.out (And.right (show _ ∧ Hid (Below S6.heap.size S6 _) by assumption)))).mono ?_); rintro e w7 ⟨rfl, hb7⟩)
                | (go_at_call 17; (with_reducible refine (HBG6.out _ (Hid.out (And.right (show _ ∧ Hid (Below S6.heap.size S6 _) by assumption)))).mono ?_); rintro e w8 ⟨rfl, hb8⟩))
            all_goals
              go_wp2
              go_roundw
              case rel => exact ⟨k + 1, by omega, by go_num, Lib.hid (HS6.out.trans ((Hid.out (And.right (show _ ∧ Hid (Below S6.heap.size S6 _) by assumption))).mono HS6.out.size))⟩
              case measure => simp [intOf]; omega
          · go_region_held3 (fun w' => ((w'.cell? ⟨B1, 0, none⟩ = some (.slice a1 ff.terms.length c1) ∧ w'.cell? ⟨B1, 1, none⟩ = some (.slice a2 ff.nons.length c2) ∧ w'.cell? ⟨B1, 2, none⟩ = some (.slice a3 ff.prods.length c3)) ∧ (w'.cell? ⟨B6, 0, none⟩ = some (.slice xa xw.length xc) ∧ w'.cell? ⟨B6, 1, none⟩ = some (.bool true) ∧ w'.cell? ⟨B6, 2, none⟩ = some (.bool true)) ∧ (B1 < w'.heap.size ∧ B6 < w'.heap.size)) ∧ Hid (Below S6.heap.size S6 w'))
              (first | (exact HKX.out _ _ HBS (Below.refl _ _).drew) | (exact HKX.out _ _ (And.right (show _ ∧ Hid (Below S6.heap.size S6 _) by assumption)) (by assumption)) | go_keep)
              (first
                | (go_at_call 16; (with_reducible refine (HHA6.out _ (Hid.out (And.right (show _ ∧ Hid (Below S6.heap.size S6 _) by assumption)))).mono ?_); rintro e w7 ⟨rfl, hb7⟩)
                | (go_at_call 17; (with_reducible refine (HBG6.out _ (Hid.out (And.right (show _ ∧ Hid (Below S6.heap.size S6 _) by assumption)))).mono ?_); rintro e w8 ⟨rfl, hb8⟩))
            all_goals
              go_wp2
              go_roundw
              case rel => exact ⟨k + 1, by omega, by go_num, Lib.hid (HS6.out.trans ((Hid.out (And.right (show _ ∧ Hid (Below S6.heap.size S6 _) by assumption))).mono HS6.out.size))⟩
              case measure => simp [intOf]; omega
        · have hk11 : k = 11 := by omega
          have e2 : ¬ (k : Int) < 11 := by omega
          clear hk11 hlt hk
          have HBX := Lib.hid (HB6.out.trans (HBE.out.mono HB6.out.size))
          go_upto_region 22 with (go_at_call 12; refine (HP2.out _).mono ?_; rintro e wa ⟨v, rfl, hba, hga⟩; obtain ⟨n1, n2, n3, d1, d2, d3, rfl⟩ := gform3 hga.at_)
          have hbS : Below wa.heap.size wa (wa.alloc (.cells #[.slice n1 fn.terms.length d1, .slice n2 fn.nons.length d2, .slice n3 fn.prods.length d3] 25)) := (Below.refl _ _).alloc (Nat.le_refl _) _
          have q0 := heap_alloc_new wa (.cells #[.slice n1 fn.terms.length d1, .slice n2 fn.nons.length d2, .slice n3 fn.prods.length d3] 25)
          have HGN := Lib.hid (hga.at_.below hbS)
          have HBN := Lib.hid (HBX.out.trans ((hba.trans (hbS.mono hba.size)).mono HBX.out.size))
          have HQN := Lib.hid q0
          clear hba hga hbS q0 HP2
          generalize wa.alloc (.cells #[.slice n1 fn.terms.length d1, .slice n2 fn.nons.length d2, .slice n3 fn.prods.length d3] 25) = SN at *
          generalize wa.heap.size = BN at *
          have hlN : BN < SN.heap.size := heap_lt HQN.out
          have HTN := Lib.hid (HTS.out.below HBN.out)
          have HCN := Lib.hid fun (W : World) (hW : Below SN.heap.size SN W) => (⟨(blk_cell (i := 0) ((hW.block BN hlN).trans HQN.out) rfl).1, (blk_cell (i := 1) ((hW.block BN hlN).trans HQN.out) rfl).1, (blk_cell (i := 2) ((hW.block BN hlN).trans HQN.out) rfl).1, heap_lt ((hW.block BN hlN).trans HQN.out)⟩ : W.cell? ⟨BN, 0, none⟩ = some (.slice n1 fn.terms.length d1) ∧ W.cell? ⟨BN, 1, none⟩ = some (.slice n2 fn.nons.length d2) ∧ W.cell? ⟨BN, 2, none⟩ = some (.slice n3 fn.prods.length d3) ∧ BN < W.heap.size)
          obtain ⟨z0, z1, z2, z3⟩ := HCN.out SN (Below.refl _ _)
          have HD2 := Lib.hid (lwords_any _ fn 4 9 SN HGN.out fn_check (by omega) (by omega) HTN.out)
          go_upto_region 23 with (go_at_call 14; refine HD2.out.mono ?_; rintro e wb ⟨hbb, ma, mc, M, rfl, hM, bm1, hbm1, hGM⟩)
          have hM0 : M = [] := by
            have h1 : M.map (·.row) = [] := by rw [hM]; show ((Al.levs 1 4).filter (hasD fn)).take 9 = []; rw [fn_words]; rfl
            exact List.map_eq_nil_iff.1 h1
          subst hM0
          obtain ⟨y0, y1, y2, y3⟩ := HCN.out wb hbb
          have HBB := Lib.hid hbb
          have HBGN := Lib.hid fun (W : World) (hW : Below SN.heap.size SN W) => (show Calls Tryd.prog 17 #[.agg #[.slice n1 fn.terms.length d1, .slice n2 fn.nons.length d2, .slice n3 fn.prods.length d3], .slice none 0 0] W fun e w' => e = .returned (.bool false) ∧ Below W.heap.size W w' from ((lbegins_d _ fn none 0 [] W (HGN.out.below hW) fn_check (.inl rfl) (by simp) (fun s hs => by cases hs) (HTN.out.below hW)).mono fun e w' h => ⟨h.1.trans (by rw [fn_beg]), h.2⟩))
          have HHAN := Lib.hid fun (W : World) (hW : Below SN.heap.size SN W) => (show Calls Tryd.prog 16 #[.agg #[.slice n1 fn.terms.length d1, .slice n2 fn.nons.length d2, .slice n3 fn.prods.length d3], .slice none 0 0] W fun e w' => e = .returned (.bool false) ∧ Below W.heap.size W w' from ((lhas_d _ fn none 0 [] W (HGN.out.below hW) fn_check (.inl rfl) (by simp) (fun s hs => by cases hs) (HTN.out.below hW)).mono fun e w' h => ⟨h.1.trans (by rw [fn_has]), h.2⟩))
          have HWK := Lib.hid fun (W : World) (hW : Below SN.heap.size SN W) => lwakes_any W (HTN.out.below hW)
          clear hM hGM hbb z0 z1 z2 z3
          go_wp2_with (first
            | (go_at_call 17; (with_reducible refine (HBGN.out _ HBB.out).mono ?_); rintro e wc ⟨rfl, hbc⟩
               have hSc := HBB.out.trans (hbc.mono HBB.out.size)
               have HSc := Lib.hid hSc
               obtain ⟨u0, u1, u2, u3⟩ := HCN.out wc hSc
               clear hbc hSc)
            | (go_at_call 16; (with_reducible refine (HHAN.out _ HSc.out).mono ?_); rintro e wd ⟨rfl, hbd⟩
               have HSd := Lib.hid (HSc.out.trans (hbd.mono HSc.out.size))
               clear hbd)
            | (go_at_call 18; (with_reducible refine (HWK.out _ HSd.out).mono ?_); rintro e wf ⟨rfl, hbf⟩
               have HSf := Lib.hid (HSd.out.trans (hbf.mono HSd.out.size))
               clear hbf))
          go_ret
          exact ⟨rfl, HBA.out.trans ((HBN.out.trans (HSf.out.mono HBN.out.size)).mono HBA.out.size)⟩
end Go.Proofs.YtfchfnhjpndpgaaDoor
