/- StatesItems: walked. -/
import Derived.Test.YtejjdfmobiegdaaDoorStY
import Derived.Deep.Cut
set_option linter.unusedVariables false
namespace Go.Proofs.YtejjdfmobiegdaaDoor
open Go.RowKit
open Doc

theorem whole_go {g : Gr} {K : MkP} {all : List StP} (h : Whole g K all) {k : Nat} (hk : k < all.length) {s : Int} (hs : s ∈ symsG g) :
    (goI all k s = -1 ∧ goC K (itI all k) s = []) ∨ ∃ t : Nat, goI all k s = (t : Int) ∧ 0 < t ∧ t < all.length ∧ goC K (itI all k) s ≠ [] ∧ itI all (t : Int) = goC K (itI all k) s ∧ byI all (t : Int) = s := by
  have hat : ∀ (j : Nat) (x : StP), all[j]? = some x → atI all (j : Int) = some x := fun j x hx => by
    unfold atI
    rw [if_pos (by omega), Int.toNat_natCast, hx]
  obtain ⟨x, hx⟩ : ∃ x, all[k]? = some x := ⟨_, List.getElem?_eq_getElem hk⟩
  have hi : itI all (k : Int) = x.items := by unfold itI; rw [hat k x hx]
  cases hto : x.to s with
  | none =>
    left
    refine ⟨?_, by rw [hi]; exact h.no k x s hx hs hto⟩
    unfold goI toI
    rw [hat k x hx]
    simp only [hto]
  | some t =>
    right
    obtain ⟨_, h1, h2, y, h3, h4, h5, h6⟩ := h.to_ k x s t hx hto
    refine ⟨t, ?_, h1, h2, by rw [hi]; exact h6, ?_, ?_⟩
    · unfold goI toI
      rw [hat k x hx]
      simp only [hto]
    · rw [hi]
      have hy : itI all (t : Int) = y.items := by unfold itI; rw [hat t y h3]
      rw [hy]
      exact h5
    · unfold byI
      rw [hat t y h3]
      exact h4
theorem whole_beg {g : Gr} {K : MkP} {all : List StP} (h : Whole g K all) : itI all 0 = begC K := by
  obtain ⟨o, ho⟩ := h.z
  unfold itI atI
  rw [if_pos (by omega), show (0 : Int).toNat = 0 from rfl, ho]
set_option maxRecDepth 100000 in
set_option maxHeartbeats 16000000 in
theorem statesItems_walk (x : RawX) (w : World) (hx : RawAt w x) (HT : Sl.Tab w) :
    Calls Tryd.prog 9 #[x.v] w fun e w' => e = .returned (.bool true) ∧ Below w.heap.size w w' := by
  have hck : CheckG x.any := anyF_check x.terms x.nons x.plain
  have hAN := Lib.hid (fun W h => any_gram x W h)
  have HCK := Lib.hid hck
  generalize hgg : x.any = g at *
  have HX := Lib.hid hx
  have HTT := Lib.hid HT
  clear hx hck hgg HT
  obtain ⟨xp, xt, xn, xh, rows, xa, xc, word⟩ := x
  unfold RawX.v at *
  simp only at *
  have hb0 : Below w.heap.size w (w.alloc (.cells #[.int .i64 xp, .int .i64 xt, .int .i64 xn, .int .i64 xh, .slice xa rows.length xc, .string word] 24)) := (Below.refl _ _).alloc (Nat.le_refl _) _
  have HA1 := Lib.hid (hAN.out _ (HX.out.below hb0))
  have HB0 := Lib.hid hb0
  clear hAN hb0
  go_enter Tryd.func9, Tryd.ntmps9
  go_upto_region 2 with (go_at_call 23; refine HA1.out.mono ?_; rintro e w1 ⟨hb1, at_, an, ap, ct, cn, cp, ls, rfl, hg1, hls, hc1, hr1⟩)
  have hll : ls.length = g.prods.length := by rw [← hls, List.length_map]
  rw [hll] at hg1 ⊢
  have hbA := (HB0.out.trans (hb1.mono HB0.out.size)).alloc (Nat.le_trans HB0.out.size hb1.size) (.cells #[.slice at_ g.terms.length ct, .slice an g.nons.length cn, .slice ap g.prods.length cp] 29)
  have hbS : Below w1.heap.size w1 (w1.alloc (.cells #[.slice at_ g.terms.length ct, .slice an g.nons.length cn, .slice ap g.prods.length cp] 29)) := (Below.refl _ _).alloc (Nat.le_refl _) _
  have q0 := heap_alloc_new w1 (.cells #[.slice at_ g.terms.length ct, .slice an g.nons.length cn, .slice ap g.prods.length cp] 29)
  have HG := Lib.hid (hg1.below hbS)
  have HBA := Lib.hid hbA
  have HQ0 := Lib.hid q0
  clear hb1 hg1 hls hc1 hr1 hbA hbS q0 HA1 HX HB0 hll
  generalize w1.alloc (.cells #[.slice at_ g.terms.length ct, .slice an g.nons.length cn, .slice ap g.prods.length cp] 29) = S at *
  generalize w1.heap.size = B1 at *
  have hl1 : B1 < S.heap.size := heap_lt HQ0.out
  have HCX := Lib.hid fun (W : World) (hW : Below S.heap.size S W) => (⟨(blk_cell (i := 0) ((hW.block B1 hl1).trans HQ0.out) rfl).1, (blk_cell (i := 1) ((hW.block B1 hl1).trans HQ0.out) rfl).1, (blk_cell (i := 2) ((hW.block B1 hl1).trans HQ0.out) rfl).1, heap_lt ((hW.block B1 hl1).trans HQ0.out)⟩ : W.cell? ⟨B1, 0, none⟩ = some (.slice at_ g.terms.length ct) ∧ W.cell? ⟨B1, 1, none⟩ = some (.slice an g.nons.length cn) ∧ W.cell? ⟨B1, 2, none⟩ = some (.slice ap g.prods.length cp) ∧ B1 < W.heap.size)
  have HGW := Lib.hid fun (W : World) (hW : Below S.heap.size S W) => HG.out.below hW
  have HTW := Lib.hid fun (W : World) (hW : Below S.heap.size S W) => HTT.out.below (HBA.out.trans (hW.mono HBA.out.size))
  have HWK := Lib.hid fun (W : World) (hW : Below S.heap.size S W) => wakes12_any W (HTW.out W hW)
  have HSZ := Lib.hid HBA.out.size
  have hS0 : Below S.heap.size S S := Below.refl _ _
  have HS0 := Lib.hid hS0
  obtain ⟨x0, x1, x2, x3⟩ := HCX.out S hS0
  clear hS0 HQ0 HG HTT
  by_cases hf : Fru g 100
  · cases hM : machS (kOf g) g 120 with
    | none =>
      have HN := Lib.hid (snew_few (b := 120) (HGW.out S HS0.out) HCK.out (HTW.out S HS0.out) hf (by omega) hM)
      unfold NilTo at HN
      go_upto_region 3 with (go_at_call 26; (with_reducible refine HN.out.mono ?_); rintro e w2 ⟨rfl, hb2⟩)
      have HB2 := Lib.hid hb2
      clear hb2 x0 x1 x2 x3
      go_wp2_with (go_at_call 32; (with_reducible refine (HWK.out w2 HB2.out).mono ?_); rintro e w3 ⟨rfl, hb3⟩)
      go_ret
      exact ⟨rfl, HBA.out.trans ((HB2.out.trans (hb3.mono HB2.out.size)).mono HSZ.out)⟩
    | some all =>
      have HN := Lib.hid (snew_ok (b := 120) (HGW.out S HS0.out) HCK.out (HTW.out S HS0.out) hf (by omega) hM)
      unfold OkTo at HN
      have hn1 := mach_len hM
      have hn6 := mach_bound hM (by omega)
      have HFR := Lib.hid hf
      have HMM := Lib.hid hM
      clear hf hM
      go_upto_region 5 with (go_at_call 26; (with_reducible refine HN.out.mono ?_); rintro e w2 ⟨B, G, sa, sc, ss, rfl, hb2, hps, hKO, hm2⟩)
      have HWH := Lib.hid (mach_whole HCK.out hKO HMM.out)
      have hsl : ss.length = all.length := by rw [← hps]; simp [plS]
      have HM2 := Lib.hid hm2
      have HB2 := Lib.hid hb2
      have HNI := Lib.hid ((inew_any _ g w2 (HGW.out w2 hb2) HCK.out).mono fun e w' ⟨hb, hh⟩ => (by
        rcases hh with ⟨_, BM, BT, bt, M, F, he, hM, hF, hm⟩ | ⟨hn, _⟩
        · exact ⟨hb, BM, BT, bt, M, F, he, kOf_eq ⟨M, F, rfl, hM, hF⟩, hm⟩
        · exact absurd HFR.out hn : Below w2.heap.size w2 w' ∧ ∃ (BM BT bt : Nat) (M : MakR) (F : List Nat), e = Ending.returned (.tuple #[.pointer (some ⟨BM, 0, none⟩), .int .i64 0]) ∧ mkP M F = kOf g ∧ MakT w' BM M BT bt F))
      have HPS := Lib.hid hps
      have HSL := Lib.hid hsl
      clear hb2 hps hm2 hsl x0 x1 x2 x3 HN hKO HMM
      obtain ⟨y0, y1, y2, y3⟩ := HCX.out w2 HB2.out
      go_upto_region 6 with (go_at_call 36; (with_reducible refine HNI.out.mono ?_); rintro e w3 ⟨hb3, BM, BT, bt, M, F, rfl, hKE, hmk⟩)
      have HOK := Lib.hid (mkOk_of hmk.ok)
      have HKE := Lib.hid hKE
      have HW3 := Lib.hid (HB2.out.trans (hb3.mono HB2.out.size))
      have HXM := Lib.hid fun (W : World) (hW : Below w3.heap.size w3 W) => (⟨(HM2.out.below hb3).below hW, hmk.below hW, HTW.out W (HW3.out.trans (hW.mono HW3.out.size)), HCX.out W (HW3.out.trans (hW.mono HW3.out.size))⟩ : MacAt W B _ g G sa sc ss ∧ MakT W BM M BT bt F ∧ Sl.Tab W ∧ W.cell? ⟨B1, 0, none⟩ = some (.slice at_ g.terms.length ct) ∧ W.cell? ⟨B1, 1, none⟩ = some (.slice an g.nons.length cn) ∧ W.cell? ⟨B1, 2, none⟩ = some (.slice ap g.prods.length cp) ∧ B1 < W.heap.size)
      have HLN := Lib.hid fun (W : World) (hW : Below w3.heap.size w3 W) => mlen_any B _ g G sa sc ss W (HXM.out W hW).1
      rw [HSL.out] at HLN
      have HIT := Lib.hid fun (i : Int) (W : World) (hW : Below w3.heap.size w3 W) => mitems_any B _ g G sa sc ss i W (HXM.out W hW).1
      rw [HPS.out] at HIT
      have HGO := Lib.hid fun (i s : Int) (h1 : -1000 ≤ s) (h2 : s ≤ 1000) (W : World) (hW : Below w3.heap.size w3 W) => mgo_any B _ g G sa sc ss i s (by omega) (by omega) W (HXM.out W hW).1
      rw [HPS.out] at HGO
      have HBG := Lib.hid fun (W : World) (hW : Below w3.heap.size w3 W) => ibegin_any BM BT bt M F W (HXM.out W hW).2.1 (HXM.out W hW).2.2.1
      have HIG := Lib.hid fun (a : Option Addr) (c : Nat) (l : List It) (s : Int) (W : World) (hW : Below w3.heap.size w3 W) (hl : ItsAt W a l) (hll : l.length ≤ 11200) => igo_any BM BT bt M F a c l s W (HXM.out W hW).2.1 (HXM.out W hW).2.2.1 hl (by omega)
      unfold CloseTo at HBG HIG
      clear hb3 hmk hKE y0 y1 y2 y3 HNI HM2 HB2 HPS HSL
      have hr3 : Below w3.heap.size w3 w3 := Below.refl _ _
      have HR3 := Lib.hid hr3
      clear hr3
      go_upto_region 8 with (first
        | (go_at_call 31; (with_reducible refine (HIT.out 0 w3 HR3.out).mono ?_); rintro e w4 ⟨a4, c4, rfl, ho4, hl4, hb4⟩)
        | (go_at_call 38; (with_reducible refine (HBG.out w4 hb4).mono ?_); rintro e w5 ⟨L, a5, c5, rfl, hL, hLl, hLo, hb5⟩
           have hLe : L = itI all 0 := by rw [whole_beg HWH.out, ← HKE.out]; exact hL.uniq (closeC_is HOK.out _)
           subst hLe
           have hsm := isame_any a4 a5 c4 c5 _ _ w5 (ho4.below hb5).its hLo.its (by omega) (by omega)
           rw [decide_eq_true rfl] at hsm)
        | (go_at_call 37; (with_reducible refine hsm.mono ?_); rintro e w6 ⟨rfl, nn, rfl⟩))
      have HB6 := Lib.hid (show Below w3.heap.size w3 (w5.drewN nn) from below_drews (hb4.trans (hb5.mono hb4.size)) nn)
      clear ho4 hl4 hb4 hL hLl hLo hb5 hsm
      go_wp2_with fail
      go_loopw [8] (fun i wr => ∃ k : Nat, k ≤ all.length ∧ i = .int .i64 k ∧ Hid (Below w3.heap.size w3 wr)) (fun i _ => all.length - (intOf i).toNat)
      case atStart => exact ⟨0, Nat.zero_le _, rfl, HB6⟩
      case round =>
        clear HB6
        obtain ⟨k, hk, rfl, HB⟩ := hrel
        rename World => w7
        by_cases hlt : k < all.length
        · have hlt' : (k : Int) < all.length := by omega
          have HLT := Lib.hid hlt
          have hn8 := HCK.out.n8
          have ht8 := HCK.out.t8
          have hw100 : IntKind.i64.wrap (100 + (g.nons.length : Int)) = 100 + (g.nons.length : Int) := IntWalk.i64_in _ (by omega)
          go_upto_region 12 with (go_at_call 27; (with_reducible refine (HLN.out w7 HB.out).mono ?_); rintro e w8 ⟨rfl, hw⟩; rw [hw]; clear hw)
          go_loopw [9] (fun s wr => ∃ sn : Nat, 1 ≤ sn ∧ sn ≤ 100 + g.nons.length ∧ s = .int .i64 sn ∧ Hid (Below w3.heap.size w3 wr)) (fun s _ => 100 + g.nons.length - (intOf s).toNat)
          case atStart => exact ⟨1, by omega, by omega, rfl, HB⟩
          case round =>
            clear HB
            obtain ⟨sn, hs1, hs2, rfl, HB⟩ := hrel
            rename World => w9
            obtain ⟨y0, y1, y2, y3⟩ := (HXM.out w9 HB.out).2.2.2
            by_cases hsl : sn < 100 + g.nons.length
            · have hsl' : (sn : Int) < 100 + (g.nons.length : Int) := by omega
              by_cases hsk : g.terms.length < sn ∧ sn < 100
              · have hg1 : (sn : Int) > (g.terms.length : Int) := by omega
                have hg2 : (sn : Int) < 100 := by omega
                clear hsk
                go_wp2
                go_roundw
                case rel => exact ⟨sn + 1, by omega, by omega, by go_num, HB⟩
                case measure => simp [intOf]; omega
              · have hmem : (sn : Int) ∈ symsG g := by rw [mem_symsG]; omega
                have hcase : (¬ (sn : Int) > (g.terms.length : Int)) ∨ ((sn : Int) > (g.terms.length : Int) ∧ ¬ (sn : Int) < 100) := by omega
                have HMEM := Lib.hid hmem
                clear hsk hmem
                have hsn : sn ≤ 1000 := by omega
                rcases hcase with hg1 | ⟨hg1, hg2⟩
                all_goals
                  go_upto_region 16 with (first
                    | (go_at_call 31; (with_reducible refine (HIT.out (k : Int) w9 HB.out).mono ?_); rintro e wa ⟨a4, c4, rfl, ho4, hl4, hb4⟩)
                    | (go_at_call 39; (with_reducible refine (HIG.out a4 c4 _ (sn : Int) wa (HB.out.trans (hb4.mono HB.out.size)) ho4.its hl4).mono ?_); rintro e wb ⟨L, a5, c5, rfl, hL, hLl, hLo, hb5⟩))
                  have HLE := Lib.hid (show L = goC (kOf g) (itI all (k : Int)) (sn : Int) by rw [← HKE.out]; exact hL.uniq (closeC_is HOK.out _))
                  have HBB := Lib.hid ((HB.out.trans (hb4.mono HB.out.size)).trans (hb5.mono (Nat.le_trans HB.out.size hb4.size)))
                  have HLI := Lib.hid hLo.its
                  clear ho4 hl4 hb4 hL hLo hb5 y0 y1 y2 y3
                  have hgo := HGO.out (k : Int) (sn : Int) (by omega) (by omega) wb HBB.out
                  have hLl2 : L.length ≤ 100000 := by omega
                  rcases whole_go HWH.out HLT.out HMEM.out with ⟨h1, h2⟩ | ⟨t, h1, h2, h3, h4, h5, h6⟩
                  · rw [h1] at hgo
                    have hL0 : L = [] := HLE.out.trans h2
                    have HGG := Lib.hid hgo
                    clear h1 h2 HLE hgo
                    subst hL0
                    go_wp2_with (go_at_call 28; (with_reducible refine HGG.out.mono ?_); rintro e wc ⟨rfl, hw⟩; rw [hw]; clear hw)
                    go_roundw
                    case rel => exact ⟨sn + 1, by omega, by omega, by go_num, HBB⟩
                    case measure => simp [intOf]; omega
                  · rw [h1] at hgo
                    have hL0 : 0 < L.length := List.length_pos_iff.2 (by rw [HLE.out]; exact h4)
                    have hlb : ((L.length : Int) == 0) = false := by rw [beq_eq_false_iff_ne]; omega
                    have HGG := Lib.hid hgo
                    have HIE := Lib.hid (show itI all (t : Int) = L from h5.trans HLE.out.symm)
                    have hit := HIT.out (t : Int) wb HBB.out
                    rw [HIE.out] at hit
                    have HI2 := Lib.hid hit
                    have htl : (t : Int) < 1000 := by omega
                    clear h1 h2 h3 h4 h5 h6 HLE hgo hit
                    go_wp2_with (first
                      | (go_at_call 28; (with_reducible refine HGG.out.mono ?_); rintro e wc ⟨rfl, hw⟩; rw [hw]; clear hw)
                      | (go_at_call 31; (with_reducible refine HI2.out.mono ?_); rintro e wd ⟨a6, c6, rfl, ho6, hl6, hb6⟩
                         have hsm := isame_any a5 a6 c5 c6 _ _ wd (Cells.below HLI.out hb6) ho6.its (by omega) (by omega)
                         rw [decide_eq_true rfl] at hsm)
                      | (go_at_call 37; (with_reducible refine hsm.mono ?_); rintro e we ⟨rfl, nn, rfl⟩))
                    go_roundw
                    case rel => exact ⟨sn + 1, by omega, by omega, by go_num, Lib.hid (below_drews (HBB.out.trans (hb6.mono HBB.out.size)) nn)⟩
                    case measure => simp [intOf]; omega
            · have hge : ¬ (sn : Int) < 100 + (g.nons.length : Int) := by omega
              go_wp2
              go_roundw
              case rel => exact ⟨k + 1, by omega, by go_num, HB⟩
              case measure => simp [intOf]; omega
        · have hge : ¬ (k : Int) < all.length := by omega
          go_wp2_with (first
            | (go_at_call 27; (with_reducible refine (HLN.out w7 HB.out).mono ?_); rintro e w8 ⟨rfl, hw⟩; rw [hw]; clear hw)
            | (go_at_call 32; (with_reducible refine (HWK.out w7 (HW3.out.trans (HB.out.mono HW3.out.size))).mono ?_); rintro e w9 ⟨rfl, hb9⟩))
          go_ret
          have hz : S.heap.size ≤ w7.heap.size := (HW3.out.trans (HB.out.mono HW3.out.size)).size
          exact ⟨rfl, HBA.out.trans (((HW3.out.trans (HB.out.mono HW3.out.size)).trans (hb9.mono hz)).mono HSZ.out)⟩
  · have HN := Lib.hid (snew_empty (b := 120) (HGW.out S HS0.out) HCK.out (HTW.out S HS0.out) hf)
    unfold NilTo at HN
    go_upto_region 3 with (go_at_call 26; (with_reducible refine HN.out.mono ?_); rintro e w2 ⟨rfl, hb2⟩)
    have HB2 := Lib.hid hb2
    clear hb2 x0 x1 x2 x3
    go_wp2_with (go_at_call 32; (with_reducible refine (HWK.out w2 HB2.out).mono ?_); rintro e w3 ⟨rfl, hb3⟩)
    go_ret
    exact ⟨rfl, HBA.out.trans ((HB2.out.trans (hb3.mono HB2.out.size)).mono HSZ.out)⟩
end Go.Proofs.YtejjdfmobiegdaaDoor
