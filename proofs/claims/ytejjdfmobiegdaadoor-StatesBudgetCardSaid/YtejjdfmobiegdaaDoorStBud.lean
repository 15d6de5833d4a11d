/- StatesBudget: walked. -/
import Derived.Test.YtejjdfmobiegdaaDoorStY
set_option linter.unusedVariables false
namespace Go.Proofs.YtejjdfmobiegdaaDoor
open Go.RowKit
open Doc

set_option maxRecDepth 100000 in
set_option maxHeartbeats 16000000 in
theorem statesBudget_walk (x : RawX) (w : World) (hx : RawAt w x) (HT : Sl.Tab w) :
    Calls Tryd.prog 7 #[x.v] w fun e w' => e = .returned (.bool true) ∧ Below w.heap.size w w' := by
  have hck : CheckG x.any := anyF_check x.terms x.nons x.plain
  have hAN := Lib.hid (fun W h => any_gram x W h)
  have HCK := Lib.hid hck
  generalize hgg : x.any = g at *
  have HX := Lib.hid hx
  have HTT := Lib.hid HT
  clear hx hck hgg HT
  obtain ⟨xp, xt, xn, xh, rows, xa, xc, word⟩ := x
  unfold RawX.v at *
  simp only at *
  have hb0 : Below w.heap.size w (w.alloc (.cells #[.int .i64 xp, .int .i64 xt, .int .i64 xn, .int .i64 xh, .slice xa rows.length xc, .string word] 24)) := (Below.refl _ _).alloc (Nat.le_refl _) _
  have HA1 := Lib.hid (hAN.out _ (HX.out.below hb0))
  have HB0 := Lib.hid hb0
  clear hAN hb0
  go_enter Tryd.func7, Tryd.ntmps7
  go_upto_region 2 with (go_at_call 23; refine HA1.out.mono ?_; rintro e w1 ⟨hb1, at_, an, ap, ct, cn, cp, ls, rfl, hg1, hls, hc1, hr1⟩)
  have hll : ls.length = g.prods.length := by rw [← hls, List.length_map]
  rw [hll] at hg1 ⊢
  have hbA := (HB0.out.trans (hb1.mono HB0.out.size)).alloc (Nat.le_trans HB0.out.size hb1.size) (.cells #[.slice at_ g.terms.length ct, .slice an g.nons.length cn, .slice ap g.prods.length cp] 29)
  have hbS : Below w1.heap.size w1 (w1.alloc (.cells #[.slice at_ g.terms.length ct, .slice an g.nons.length cn, .slice ap g.prods.length cp] 29)) := (Below.refl _ _).alloc (Nat.le_refl _) _
  have q0 := heap_alloc_new w1 (.cells #[.slice at_ g.terms.length ct, .slice an g.nons.length cn, .slice ap g.prods.length cp] 29)
  have HG := Lib.hid (hg1.below hbS)
  have HBA := Lib.hid hbA
  have HQ0 := Lib.hid q0
  clear hb1 hg1 hls hc1 hr1 hbA hbS q0 HA1 HX HB0 hll
  generalize w1.alloc (.cells #[.slice at_ g.terms.length ct, .slice an g.nons.length cn, .slice ap g.prods.length cp] 29) = S at *
  generalize w1.heap.size = B1 at *
  have hl1 : B1 < S.heap.size := heap_lt HQ0.out
  have HCX := Lib.hid fun (W : World) (hW : Below S.heap.size S W) => (⟨(blk_cell (i := 0) ((hW.block B1 hl1).trans HQ0.out) rfl).1, (blk_cell (i := 1) ((hW.block B1 hl1).trans HQ0.out) rfl).1, (blk_cell (i := 2) ((hW.block B1 hl1).trans HQ0.out) rfl).1, heap_lt ((hW.block B1 hl1).trans HQ0.out)⟩ : W.cell? ⟨B1, 0, none⟩ = some (.slice at_ g.terms.length ct) ∧ W.cell? ⟨B1, 1, none⟩ = some (.slice an g.nons.length cn) ∧ W.cell? ⟨B1, 2, none⟩ = some (.slice ap g.prods.length cp) ∧ B1 < W.heap.size)
  have HGW := Lib.hid fun (W : World) (hW : Below S.heap.size S W) => HG.out.below hW
  have HTW := Lib.hid fun (W : World) (hW : Below S.heap.size S W) => HTT.out.below (HBA.out.trans (hW.mono HBA.out.size))
  have HWK := Lib.hid fun (W : World) (hW : Below S.heap.size S W) => wakes12_any W (HTW.out W hW)
  have HSZ := Lib.hid HBA.out.size
  have hS0 : Below S.heap.size S S := Below.refl _ _
  have HS0 := Lib.hid hS0
  obtain ⟨x0, x1, x2, x3⟩ := HCX.out S hS0
  clear hS0 HQ0 HG HTT
  by_cases hf : Fru g 100
  · cases hM : machS (kOf g) g 600 with
    | none =>
      have HN := Lib.hid (snew_few (b := 600) (HGW.out S HS0.out) HCK.out (HTW.out S HS0.out) hf (by omega) hM)
      unfold NilTo at HN
      clear hf hM
      go_upto_region 3 with (go_at_call 26; (with_reducible refine HN.out.mono ?_); rintro e w2 ⟨rfl, hb2⟩)
      have HB2 := Lib.hid hb2
      clear hb2 x0 x1 x2 x3
      go_wp2_with (go_at_call 32; (with_reducible refine (HWK.out w2 HB2.out).mono ?_); rintro e w3 ⟨rfl, hb3⟩)
      go_ret
      exact ⟨rfl, HBA.out.trans ((HB2.out.trans (hb3.mono HB2.out.size)).mono HSZ.out)⟩
    | some all =>
      have HN := Lib.hid (snew_ok (b := 600) (HGW.out S HS0.out) HCK.out (HTW.out S HS0.out) hf (by omega) hM)
      unfold OkTo at HN
      have hn1 := mach_len hM
      have hn6 := mach_bound hM (by omega)
      have HOK := Lib.hid fun (W : World) (hW : Below S.heap.size S W) => snew_ok (b := (all.length : Int)) (HGW.out W hW) HCK.out (HTW.out W hW) hf (by omega) (by rw [Int.toNat_natCast]; exact mach_as hM (Nat.le_refl _))
      unfold OkTo at HOK
      have HM := Lib.hid hM
      have HFR := Lib.hid hf
      clear hf hM
      go_upto_region 5 with (go_at_call 26; (with_reducible refine HN.out.mono ?_); rintro e w2 ⟨B, G, sa, sc, ss, rfl, hb2, hps, _, hm2⟩)
      have hsl : ss.length = all.length := by rw [← hps]; simp [plS]
      have HL := Lib.hid (mlen_any B _ g G sa sc ss w2 hm2)
      rw [hsl] at HL
      have HB2 := Lib.hid hb2
      clear hb2 hps hm2 hsl x0 x1 x2 x3 HN
      obtain ⟨y0, y1, y2, y3⟩ := HCX.out w2 HB2.out
      go_upto_region 6 with (go_at_call 27; (with_reducible refine HL.out.mono ?_); rintro e w3 ⟨rfl, hw⟩; rw [hw]; clear hw)
      go_upto_region 7 with (go_at_call 26; (with_reducible refine (HOK.out w2 HB2.out).mono ?_); rintro e w4 ⟨B4, G4, sa4, sc4, ss4, rfl, hb4, hps4, _, hm4⟩)
      have hsl4 : ss4.length = all.length := by rw [← hps4]; simp [plS]
      have HB4 := Lib.hid (HB2.out.trans (hb4.mono HB2.out.size))
      have HM4 := Lib.hid hm4
      have HS4 := Lib.hid hsl4
      clear y0 y1 y2 y3 hb4 hps4 hm4 hsl4 HOK HL
      obtain ⟨z0, z1, z2, z3⟩ := HCX.out w4 HB4.out
      have hwr : IntKind.i64.wrap ((all.length : Int) - 1) = (all.length : Int) - 1 := IntWalk.i64_in _ (by omega)
      by_cases h1 : all.length = 1
      · have HN0 := Lib.hid (snew_arg (b := (all.length : Int) - 1) (HGW.out w4 HB4.out) HCK.out (HTW.out w4 HB4.out) HFR.out (by omega))
        unfold NilTo at HN0
        have hb1 : ((all.length : Int) == 1) = true := by simp [h1]
        clear h1
        go_upto_region 8 with (go_at_call 26; (with_reducible refine HN0.out.mono ?_); rintro e w5 ⟨rfl, hb5⟩)
        have HB5 := Lib.hid (HB4.out.trans (hb5.mono HB4.out.size))
        have HL5 := Lib.hid (mlen_any B4 _ g G4 sa4 sc4 ss4 w5 (HM4.out.below hb5))
        rw [HS4.out] at HL5
        clear hb5 z0 z1 z2 z3 hwr
        go_wp2_with (first
          | (go_at_call 27; (with_reducible refine HL5.out.mono ?_); rintro e w6 ⟨rfl, hw⟩; rw [hw]; clear hw)
          | (go_at_call 32; (with_reducible refine (HWK.out w5 HB5.out).mono ?_); rintro e w7 ⟨rfl, hb7⟩))
        go_ret
        exact ⟨rfl, HBA.out.trans ((HB5.out.trans (hb7.mono HB5.out.size)).mono HSZ.out)⟩
      · have HN0 := Lib.hid (snew_few (b := (all.length : Int) - 1) (HGW.out w4 HB4.out) HCK.out (HTW.out w4 HB4.out) HFR.out (by omega) (mach_few HM.out (by omega) (by omega)))
        unfold NilTo at HN0
        have hb1 : ((all.length : Int) == 1) = false := by rw [beq_eq_false_iff_ne]; omega
        clear h1
        go_upto_region 8 with (go_at_call 26; (with_reducible refine HN0.out.mono ?_); rintro e w5 ⟨rfl, hb5⟩)
        have HB5 := Lib.hid (HB4.out.trans (hb5.mono HB4.out.size))
        have HL5 := Lib.hid (mlen_any B4 _ g G4 sa4 sc4 ss4 w5 (HM4.out.below hb5))
        rw [HS4.out] at HL5
        clear hb5 z0 z1 z2 z3 hwr
        go_wp2_with (first
          | (go_at_call 27; (with_reducible refine HL5.out.mono ?_); rintro e w6 ⟨rfl, hw⟩; rw [hw]; clear hw)
          | (go_at_call 32; (with_reducible refine (HWK.out w5 HB5.out).mono ?_); rintro e w7 ⟨rfl, hb7⟩))
        go_ret
        exact ⟨rfl, HBA.out.trans ((HB5.out.trans (hb7.mono HB5.out.size)).mono HSZ.out)⟩
  · have HN := Lib.hid (snew_empty (b := 600) (HGW.out S HS0.out) HCK.out (HTW.out S HS0.out) hf)
    unfold NilTo at HN
    clear hf
    go_upto_region 3 with (go_at_call 26; (with_reducible refine HN.out.mono ?_); rintro e w2 ⟨rfl, hb2⟩)
    have HB2 := Lib.hid hb2
    clear hb2 x0 x1 x2 x3
    go_wp2_with (go_at_call 32; (with_reducible refine (HWK.out w2 HB2.out).mono ?_); rintro e w3 ⟨rfl, hb3⟩)
    go_ret
    exact ⟨rfl, HBA.out.trans ((HB2.out.trans (hb3.mono HB2.out.size)).mono HSZ.out)⟩
end Go.Proofs.YtejjdfmobiegdaaDoor
