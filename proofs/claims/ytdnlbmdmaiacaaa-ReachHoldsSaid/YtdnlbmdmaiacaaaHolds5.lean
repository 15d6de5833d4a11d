/- ReachHolds: walked. -/
import Derived.Test.YtdnlbmdmaiacaaaHolds5F
import Derived.Test.YtdnlbmdmaiacaaaWake5
import Derived.Test.YtdnlbmdmaiacaaaRaw
namespace Go.Proofs.Ytdnlbmdmaiacaaa
open Go.RowKit
open Doc

theorem of64 : ofL [64] = 0 := by decide
/-- Any's grammar, in a block behind its boxes. -/
theorem any_gram (x : RawX) (w : World) (hx : RawAt w x) :
    Calls Try.prog 43 #[x.v] w fun e w' => Below w.heap.size w w' ∧ ∃ (at_ an ap : Option Addr) (ct cn cp : Nat) (ls : List Lay), e = .returned (.agg #[.slice at_ x.any.terms.length ct, .slice an x.any.nons.length cn, .slice ap ls.length cp]) ∧ GramAt w' (.agg #[.slice at_ x.any.terms.length ct, .slice an x.any.nons.length cn, .slice ap ls.length cp]) x.any ∧ ls.map Lay.plain = x.any.prods ∧ Cells w' ap (lays ls) ∧ (∀ p ∈ ls, Cells w' p.addr (nums p.right)) :=
  (any_any x w hx).mono fun e w' ⟨hb, F, ts, ns, ls, at_, an, ap, ct, cn, cp, he, _, hr, hg, _⟩ => ⟨hb, at_, an, ap, ct, cn, cp, ls, by rw [he, ← hg], by rw [← hg]; exact hr.gram, by rw [← hg], (own_cells hr.p).1, fun p hp => (own_cells (hr.r p hp)).1⟩

set_option maxRecDepth 100000 in
set_option maxHeartbeats 8000000 in
theorem reachHolds_walk (x : RawX) (w : World) (hx : RawAt w x) : Calls Try.prog 10 #[x.v] w fun e w' => e = .returned (.bool true) ∧ Below w.heap.size w w' := by
  have hck := anyF_check x.terms x.nons x.plain
  have hck : CheckG x.any := hck
  have hnums := nums_of_check hck
  have hp24 := hck.p24
  have hAN := Lib.hid (fun W h => any_gram x W h)
  have HCK := Lib.hid hck
  have HNU := Lib.hid hnums
  generalize hgg : x.any = g at *
  have HX := Lib.hid hx
  clear hx hck hnums hgg
  obtain ⟨xp, xt, xn, xh, rows, xa, xc, word⟩ := x
  unfold RawX.v at *
  simp only at *
  have hb0 : Below w.heap.size w (w.alloc (.cells #[.int .i64 xp, .int .i64 xt, .int .i64 xn, .int .i64 xh, .slice xa rows.length xc, .string word] 46)) := (Below.refl _ _).alloc (Nat.le_refl _) _
  have HA1 := Lib.hid (hAN.out _ (HX.out.below hb0))
  have HB0 := Lib.hid hb0
  clear hAN hb0
  go_enter Try.func10, Try.ntmps10
  go_upto_region 2 with (go_at_call 43; refine HA1.out.mono ?_; rintro e w1 ⟨hb1, at_, an, ap, ct, cn, cp, ls, rfl, hg1, hls, hc1, hr1⟩)
  have hbA := (HB0.out.trans (hb1.mono HB0.out.size)).alloc (Nat.le_trans HB0.out.size hb1.size) (.cells #[.slice at_ g.terms.length ct, .slice an g.nons.length cn, .slice ap ls.length cp] 26)
  have hbS : Below w1.heap.size w1 (w1.alloc (.cells #[.slice at_ g.terms.length ct, .slice an g.nons.length cn, .slice ap ls.length cp] 26)) := (Below.refl _ _).alloc (Nat.le_refl _) _
  have q0 := heap_alloc_new w1 (.cells #[.slice at_ g.terms.length ct, .slice an g.nons.length cn, .slice ap ls.length cp] 26)
  have HG := Lib.hid (hg1.below hbS)
  have HC := Lib.hid (hc1.below hbS)
  have HR := Lib.hid (fun p hp => (hr1 p hp).below hbS)
  have HLS := Lib.hid hls
  have HBA := Lib.hid hbA
  have HQ0 := Lib.hid q0
  clear hb1 hg1 hls hc1 hr1 hbA hbS q0 HA1 HX HB0
  generalize w1.alloc (.cells #[.slice at_ g.terms.length ct, .slice an g.nons.length cn, .slice ap ls.length cp] 26) = S at *
  generalize w1.heap.size = B1 at *
  have c0 := (blk_cell (i := 0) (u := .slice at_ g.terms.length ct) HQ0.out rfl).1
  have c1 := (blk_cell (i := 1) (u := .slice an g.nons.length cn) HQ0.out rfl).1
  have c2 := (blk_cell (i := 2) (u := .slice ap ls.length cp) HQ0.out rfl).1
  have l1 := heap_lt HQ0.out
  have HNL := Lib.hid fun W (hW : Below S.heap.size S W) => nullable_any _ g W (HG.out.below hW) HCK.out
  have HFR := Lib.hid fun W (hW : Below S.heap.size S W) => fruitful_any _ g W (HG.out.below hW) HCK.out
  have HRE := Lib.hid fun W (hW : Below S.heap.size S W) => reached_any _ g W (HG.out.below hW) HCK.out
  have HTR := Lib.hid fun W (hW : Below S.heap.size S W) => trim_one _ g W (HG.out.below hW) HCK.out
  have HD : Hid (∀ W, Below S.heap.size S W → (W.cell? ⟨B1, 0, none⟩ = some (.slice at_ g.terms.length ct) ∧ W.cell? ⟨B1, 1, none⟩ = some (.slice an g.nons.length cn) ∧ W.cell? ⟨B1, 2, none⟩ = some (.slice ap ls.length cp)) ∧ B1 < W.heap.size) := Lib.hid fun W hW => ⟨⟨(hW.cell (p := ⟨B1, 0, none⟩) l1).trans c0, (hW.cell (p := ⟨B1, 1, none⟩) l1).trans c1, (hW.cell (p := ⟨B1, 2, none⟩) l1).trans c2⟩, Nat.lt_of_lt_of_le l1 hW.size⟩
  go_cut [4, 5, 6] from 20 to 25 (fun a b c wx => ∃ n f r : Nat, a = .int .u64 n ∧ b = .int .u64 f ∧ c = .int .u64 r ∧ Hid (Tells5 g n f r) ∧ Below S.heap.size S wx)
  case first =>
    go_region_with (first
      | (go_at_call 32; refine (HNL.out _ (Below.refl _ _).drew).mono ?_; rintro e w2 ⟨⟨n, rfl, hn⟩, hb2⟩; have hB2 := (Below.refl S.heap.size S).drew.trans hb2; obtain ⟨⟨d0, d1, d2⟩, d3⟩ := HD.out _ hB2; have HN := Lib.hid hn; clear hn)
      | (go_at_call 34; refine (HFR.out _ hB2).mono ?_; rintro e w3 ⟨⟨f, rfl, hf⟩, hb3⟩; have hB3 := hB2.trans (hb3.mono hB2.size); obtain ⟨⟨k0, k1, k2⟩, k3⟩ := HD.out _ hB3; have HF := Lib.hid hf; clear hf)
      | (go_at_call 35; refine (HRE.out _ hB3).mono ?_; rintro e w4 ⟨⟨r, rfl, hr⟩, hb4⟩; have hB4 := hB3.trans (hb4.mono hB3.size); obtain ⟨⟨m0, m1, m2⟩, m3⟩ := HD.out _ hB4; have HRR := Lib.hid hr; clear hr))
    all_goals
      go_wp2_with fail
      go_meet
      case rel => exact ⟨n, f, r, rfl, rfl, rfl, Lib.hid ⟨HN.out, HF.out, HRR.out⟩, hB4⟩
  case rest =>
    obtain ⟨n, f, r, rfl, rfl, rfl, HT, hbw⟩ := hcut
    have hT := HT.out
    have hn64 := hT.n_.1
    have hf64 := hT.f_.1
    have hr64 := hT.r_.1
    have hless : sless n f = 0 := less_zero hT.n_ hT.f_ fun x hx => nul_fru hx
    have hr0 : shas r 0 = true := (has_zero hT.r_).2 .start
    have HHN := Lib.hid fun W => (in_any n f hn64 hf64 W).mono fun e w' ⟨he, hw⟩ => (⟨he.trans (by rw [hless]; rfl), hw⟩ : e = Ending.returned (.bool true) ∧ w' = W)
    have HHR := Lib.hid fun x W => has_any r x hr64 W
    have HHF := Lib.hid fun x W => has_any f x hf64 W
    have HHNN := Lib.hid fun x W => has_any n x hn64 W
    have HR0 := Lib.hid hr0
    have HOF := Lib.hid fun W => (set_of (some ⟨W.heap.size, 0, none⟩) 1 [64] (W.alloc (.cells #[.int .i64 64] 3)) (cells_new W #[.int .i64 64] 3) (by decide)).mono fun e w' ⟨he, hw⟩ => (⟨he.trans (by rw [of64]; rfl), hw⟩ : e = Ending.returned (.int .u64 0) ∧ w' = W.alloc (.cells #[.int .i64 64] 3))
    have HCO := Lib.hid fun W => (count_any 0 (by decide) W).mono fun e w' ⟨he, hw⟩ => (⟨he.trans (by rw [Pop.items_zero]; rfl), hw⟩ : e = Ending.returned (.int .i64 0) ∧ w' = W)
    have hbw2 := hbw.alloc hbw.size (.cells #[.int .i64 64] 3)
    have HTR2 := Lib.hid (HTR.out _ hbw2)
    have HD2 := HD.out _ hbw2
    obtain ⟨⟨d0, d1, d2⟩, d3⟩ := HD2
    have HBW2 := Lib.hid hbw2
    clear hT hless hr0 hbw hbw2 HNL HFR HRE HTR
    go_upto_region 5 with (first
      | (go_at_call 44; refine (HHN.out _).mono ?_; rintro e w2 ⟨rfl, rfl⟩)
      | (go_at_call 45; refine (HHR.out _ _).mono ?_; rintro e w2 ⟨rfl, rfl⟩; simp only [HR0.out])
      | (go_at_call 33; refine (HOF.out _).mono ?_; rintro e w2 ⟨rfl, rfl⟩)
      | (go_at_call 46; refine (HCO.out _).mono ?_; rintro e w2 ⟨rfl, rfl⟩))
    go_upto_region 6 with (go_at_call 31; refine HTR2.out.mono ?_; rintro e w3 ⟨hb3, F, ta, tc, tl, er, rfl, hF, hto, htc, htl⟩)
    have hFf : F = f := hF.uniq HT.out.f_
    subst hFf
    have hbw3 := HBW2.out.trans (hb3.mono HBW2.out.size)
    obtain ⟨⟨e0, e1, e2⟩, e3⟩ := HD.out _ hbw3
    have HBW3 := Lib.hid hbw3
    have HIN := Lib.hid fun W (hW : Below w3.heap.size w3 W) => set_of ta tc tl W (htc.below hW) (by omega)
    have HIL := Lib.hid fun x W => has_any (ofL tl) x (ofL_lt tl) W
    have HTO := Lib.hid hto
    have HC3 := Lib.hid (HC.out.below hbw3)
    have HR3 := Lib.hid (fun p hp => (HR.out p hp).below hbw3)
    have HLN := Lib.hid (show ls.length = g.prods.length by rw [← HLS.out, List.length_map])
    have hll : ls.length ≤ 24 := by rw [HLN.out]; exact hp24
    have HPC := Lib.hid fun k (p : Lay) (hp : ls[k]? = some p) => (show g.prods[k]? = some p.plain by rw [← HLS.out, List.getElem?_map, hp]; rfl)
    clear hF hto htc d0 d1 d2 d3 HBW2 HTR2 hbw3 hb3 HC HR HOF HCO HHN
    obtain ⟨b0, hz, herb, htl2⟩ : ∃ b0 : Bool, shas F 0 = b0 ∧ (er == 0) = b0 ∧ (b0 = true → tl = trimF F g.prods 0) := by
      rcases HTO.out with ⟨h1, h2, h3⟩ | ⟨h1, h2, h3⟩
      · exact ⟨true, h1, by rw [h2]; rfl, fun _ => h3⟩
      · exact ⟨false, h1, by rw [h2]; rfl, fun h => by cases h⟩
    have HZ := Lib.hid hz
    have HT2 := Lib.hid htl2
    clear hz htl2 HTO
    go_wp2_with (first
      | (go_at_call 45; refine (HHF.out _ _).mono ?_; rintro e w4 ⟨rfl, hw4⟩; rw [hw4]; clear hw4; simp only [HZ.out])
      | (go_at_call 33; refine (HIN.out _ (Below.refl _ _)).mono ?_; rintro e w5 ⟨rfl, hw5⟩; rw [hw5]; clear hw5))
    clear herb
    have HHT := Lib.hid (show b0 = true → ∀ (k : Nat) (p : Lay), ls[k]? = some p → shas (ofL tl) (k : Int) = bearI p.right F from fun hb k p hp => by rw [HT2.out hb]; exact trim_has F g.prods (by omega) (HPC.out k p hp))
    have hIl := ofL_lt tl
    generalize ofL tl = I at *
    go_loopw [56] (fun i wr => ∃ k : Nat, k ≤ ls.length ∧ i = .int .i64 k ∧ Below w3.heap.size w3 wr) (fun i _ => ls.length - (intOf i).toNat)
    case atStart => exact ⟨0, by omega, rfl, Below.refl _ _⟩
    case round =>
      obtain ⟨k, hk, rfl, hbe⟩ := hrel
      by_cases hlt : k < ls.length
      · obtain ⟨p, hp⟩ : ∃ p, ls[k]? = some p := ⟨_, List.getElem?_eq_getElem hlt⟩
        obtain ⟨pl, pr, pa, pc⟩ := p
        obtain ⟨b3, o3, hap, hb3, hc3⟩ := (HC3.out.below hbe).get (by intro e; have := (lays_at ls k _ hp).1; rw [e] at this; simp at this)
        have x0 := hc3 _ _ (lays_at ls k _ hp).1
        have x1 := hc3 _ _ (lays_at ls k _ hp).2
        rw [← Nat.add_assoc] at x1
        simp only at x0 x1
        subst hap
        have z1 : (k : Int) < ls.length := by omega
        have hgp := HPC.out k _ hp
        have hgm := List.mem_of_getElem? hgp
        have hnm := HNU.out _ hgm
        have hnl : 100 ≤ pl ∧ pl < 164 := hnm.1
        have HGM := Lib.hid (show (pl, pr) ∈ g.prods from hgm)
        have HNM := Lib.hid (show ∀ s ∈ pr, 0 ≤ s ∧ s < 164 from hnm.2)
        have hprl : pr.length ≤ 6 := ((HCK.out.pv _ hgm).2.1 : _)
        have HHTk := Lib.hid fun hb => HHT.out hb k _ hp
        have hbA : Below wr.heap.size wr (wr.alloc (.cells #[.int .i64 pl, .slice pa pr.length pc] 37)) := (Below.refl _ _).alloc (Nat.le_refl _) _
        have HPR := Lib.hid ((show Cells wr pa (nums pr) from (HR3.out _ (List.mem_of_getElem? hp)).below hbe).below hbA)
        have HBF := Lib.hid (hbe.trans (hbA.mono hbe.size))
        have y0 := (blk_cell (i := 0) (u := .int .i64 pl) (heap_alloc_new wr (.cells #[.int .i64 pl, .slice pa pr.length pc] 37)) rfl).1
        clear hc3 hp hgp hgm hnm hbA hbe
        obtain ⟨hnl1, hnl2⟩ := hnl
        go_wp2
        clear x0 x1 hb3
        generalize wr.alloc (.cells #[.int .i64 pl, .slice pa pr.length pc] 37) = W2 at *
        go_loop [13, 14, 67] (fun em wl i => ∃ m : Nat, m ≤ pr.length ∧ i = .int .i64 m ∧ em = .bool (vanI (pr.take m) n) ∧ wl = .bool (bearI (pr.take m) F)) (fun _ _ i => pr.length - (intOf i).toNat)
        case atStart => exact ⟨0, by omega, rfl, rfl, rfl⟩
        case round =>
          obtain ⟨m, hm, rfl, rfl, rfl⟩ := hrel
          by_cases hml : m < pr.length
          · obtain ⟨s, hs⟩ : ∃ s, pr[m]? = some s := ⟨_, List.getElem?_eq_getElem hml⟩
            obtain ⟨b4, o4, rfl, hb4, hc4⟩ := HPR.out.get (by unfold nums; intro e; rw [List.map_eq_nil_iff] at e; rw [e] at hml; simp at hml)
            have u0' := hc4 m _ (nums_at hs)
            have z2 : (m : Int) < pr.length := by omega
            have hsm := HNM.out s (List.mem_of_getElem? hs)
            have HVS := Lib.hid (vanI_step (S := n) hs)
            have HBS := Lib.hid (bearI_step (S := F) hs)
            have HRS := Lib.hid fun h100 h => rea_has HNU.out HT.out.r_ HGM.out (List.mem_of_getElem? hs) h100 h
            clear hc4 hs
            generalize vanI (pr.take m) n = em at *
            generalize bearI (pr.take m) F = wm at *
            by_cases h100 : s < 100
            · have hN1 := Lib.hid (show vanI (pr.take (m + 1)) n = false by rw [HVS.out, shas_low n h100, Bool.and_false])
              have hN2 := Lib.hid (show bearI (pr.take (m + 1)) F = wm by rw [HBS.out, decide_eq_true h100, Bool.true_or, Bool.and_true])
              go_wp2
              exact ⟨⟨m + 1, by omega, by go_num, by rw [hN1.out], by rw [hN2.out]⟩, by simp [intOf]; omega⟩
            · have hN1 := Lib.hid (HVS.out)
              have hN2 := Lib.hid (show bearI (pr.take (m + 1)) F = (wm && shas F (s - 100)) by rw [HBS.out, decide_eq_false h100, Bool.false_or])
              have hsm1 : 100 ≤ s := by omega
              cases hrl : shas r (pl - 100) with
              | false =>
                cases em <;> cases wm
                all_goals
                  go_wp2_with (go_at_call 45; first | (with_reducible refine (HHNN.out _ _).mono ?_; rintro e w9 ⟨rfl, rfl⟩; skip) | (with_reducible refine (HHF.out _ _).mono ?_; rintro e w9 ⟨rfl, rfl⟩; skip) | (with_reducible refine (HHR.out _ _).mono ?_; rintro e w9 ⟨rfl, rfl⟩; simp only [hrl]) | (with_reducible refine (HIL.out _ _).mono ?_; rintro e w9 ⟨rfl, rfl⟩; skip))
                  exact ⟨⟨m + 1, by omega, by go_num, by rw [hN1.out]; first | rfl | simp, by rw [hN2.out]; first | rfl | simp⟩, by simp [intOf]; omega⟩
              | true =>
                have hrs := HRS.out hsm1 hrl
                cases em <;> cases wm
                all_goals
                  go_wp2_with (go_at_call 45; first | (with_reducible refine (HHNN.out _ _).mono ?_; rintro e w9 ⟨rfl, rfl⟩; skip) | (with_reducible refine (HHF.out _ _).mono ?_; rintro e w9 ⟨rfl, rfl⟩; skip) | (with_reducible refine (HHR.out _ _).mono ?_; rintro e w9 ⟨rfl, rfl⟩; (first | simp only [hrl] | simp only [hrs])) | (with_reducible refine (HIL.out _ _).mono ?_; rintro e w9 ⟨rfl, rfl⟩; skip))
                  exact ⟨⟨m + 1, by omega, by go_num, by rw [hN1.out]; first | rfl | simp, by rw [hN2.out]; first | rfl | simp⟩, by simp [intOf]; omega⟩
          · have z2 : ¬ (m : Int) < pr.length := by omega
            have e1' : vanI (pr.take m) n = vanI pr n := by rw [List.take_of_length_le (by omega)]
            have e2' : bearI (pr.take m) F = bearI pr F := by rw [List.take_of_length_le (by omega)]
            have HVH := Lib.hid (show vanI pr n = true → shas n (pl - 100) = true from fun h => van_has HNU.out HT.out.n_ HGM.out h)
            have HBH := Lib.hid (show bearI pr F = true → shas F (pl - 100) = true from fun h => bear_has HNU.out HT.out.f_ HGM.out h)
            rw [e1', e2']
            have HHT2 := Lib.hid (show b0 = true → shas I (k : Int) = bearI pr F from HHTk.out)
            clear e1' e2'
            generalize vanI pr n = em at *
            generalize bearI pr F = wm at *
            cases em <;> cases wm <;> cases b0
            all_goals
              have v1 := HVH.out
              have v2 := HBH.out
              have v3 := HHT2.out
              have v4 := HZ.out
              simp only [forall_const, reduceCtorEq, false_implies] at v1 v2 v3
              go_wp2_with (go_at_call 45; first | (with_reducible refine (HHNN.out _ _).mono ?_; rintro e w9 ⟨rfl, rfl⟩; simp only [v1]) | (with_reducible refine (HHF.out _ _).mono ?_; rintro e w9 ⟨rfl, rfl⟩; (first | simp only [v2] | simp only [v4])) | (with_reducible refine (HHR.out _ _).mono ?_; rintro e w9 ⟨rfl, rfl⟩; skip) | (with_reducible refine (HIL.out _ _).mono ?_; rintro e w9 ⟨rfl, rfl⟩; simp only [v3]))
              exact ⟨⟨k + 1, by omega, by go_num, HBF.out⟩, by simp [intOf]; omega⟩
      · have z1 : ¬ (k : Int) < ls.length := by omega
        have HBE := Lib.hid hbe
        clear hbe
        go_wp2_with (go_at_call 37; refine (wakes5_any _).mono ?_; rintro e w9 ⟨rfl, hb9⟩)
        go_ret
        have q1 := HBA.out.trans (HBW3.out.mono HBA.out.size)
        have q2 := q1.trans (HBE.out.mono q1.size)
        exact ⟨rfl, q2.trans (hb9.mono q2.size)⟩

end Go.Proofs.Ytdnlbmdmaiacaaa
