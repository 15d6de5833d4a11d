/- FirstWords: walked. -/
import Derived.Test.YtflfmcikfiaoiaaSpanR
import Derived.Test.YtflfmcikfiaoiaaSpanW
import Derived.Test.YtflfmcikfiaoiaaAllW
import Derived.Test.YtflfmcikfiaoiaaFirstD
import Derived.Test.YtflfmcikfiaoiaaWake6
import Derived.Deep.Cut
import Derived.Deep.RegionHeld3
set_option linter.unusedVariables false
namespace Go.Proofs.Ytflfmcikfiaoiaa
open Go.RowKit
open Doc

set_option maxRecDepth 100000 in
set_option maxHeartbeats 16000000 in
theorem firstWords_walk (x : RawX) (w : World) (hx : RawAt w x) : Calls Try.prog 5 #[x.v] w fun e w' => e = .returned (.bool true) ∧ Below w.heap.size w w' := by
  have hck : CheckG x.any := anyF_check x.terms x.nons x.plain
  have hAN := Lib.hid (fun W h => any_gram x W h)
  have HCK := Lib.hid hck
  have ht8 := hck.t8
  have hn8 := hck.n8
  have hn1 := hck.n1
  have ht1 := hck.t1
  have hp24 := hck.p24
  generalize hgg : x.any = g at *
  have HX := Lib.hid hx
  clear hx hck hgg
  obtain ⟨xp, xt, xn, xh, rows, xa, xc, word⟩ := x
  unfold RawX.v at *
  simp only at *
  have hb0 : Below w.heap.size w (w.alloc (.cells #[.int .i64 xp, .int .i64 xt, .int .i64 xn, .int .i64 xh, .slice xa rows.length xc, .string word] 24)) := (Below.refl _ _).alloc (Nat.le_refl _) _
  have HA1 := Lib.hid (hAN.out _ (HX.out.below hb0))
  have HB0 := Lib.hid hb0
  clear hAN hb0
  go_enter Try.func5, Try.ntmps5
  go_upto_region 2 with (go_at_call 10; refine HA1.out.mono ?_; rintro e w1 ⟨hb1, at_, an, ap, ct, cn, cp, ls, rfl, hg1, hls, hc1, hr1⟩)
  have hbA := (HB0.out.trans (hb1.mono HB0.out.size)).alloc (Nat.le_trans HB0.out.size hb1.size) (.cells #[.slice at_ g.terms.length ct, .slice an g.nons.length cn, .slice ap ls.length cp] 28)
  have hbS : Below w1.heap.size w1 (w1.alloc (.cells #[.slice at_ g.terms.length ct, .slice an g.nons.length cn, .slice ap ls.length cp] 28)) := (Below.refl _ _).alloc (Nat.le_refl _) _
  have q0 := heap_alloc_new w1 (.cells #[.slice at_ g.terms.length ct, .slice an g.nons.length cn, .slice ap ls.length cp] 28)
  have HG := Lib.hid (hg1.below hbS)
  have HBA := Lib.hid hbA
  have HQ0 := Lib.hid q0
  clear hb1 hg1 hls hc1 hr1 hbA hbS q0 HA1 HX HB0
  generalize w1.alloc (.cells #[.slice at_ g.terms.length ct, .slice an g.nons.length cn, .slice ap ls.length cp] 28) = S at *
  generalize w1.heap.size = B1 at *
  have l1 := heap_lt HQ0.out
  have hSK : ∀ W, Below S.heap.size S W → (W.cell? ⟨B1, 0, none⟩ = some (.slice at_ g.terms.length ct) ∧ W.cell? ⟨B1, 1, none⟩ = some (.slice an g.nons.length cn) ∧ W.cell? ⟨B1, 2, none⟩ = some (.slice ap ls.length cp)) ∧ B1 < W.heap.size := fun W hb => by
    have q := (hb.block B1 l1).trans HQ0.out
    exact ⟨⟨(blk_cell q rfl).1, (blk_cell q rfl).1, (blk_cell q rfl).1⟩, heap_lt q⟩
  have HSK := Lib.hid hSK
  clear hSK
  have HNW := Lib.hid (new_one _ g S HG.out HCK.out)
  obtain ⟨⟨c0, c1, c2⟩, l1'⟩ := HSK.out S (Below.refl _ _)
  go_upto_region 3 with (go_at_call 19; refine HNW.out.mono ?_; rintro e w5 ⟨hbw0, pv, er, rfl, hcase⟩)
  have hbw := Lib.hid hbw0
  obtain ⟨⟨d0, d1, d2⟩, l5⟩ := HSK.out w5 hbw0
  clear hbw0 HNW
  have HGW := Lib.hid (HG.out.below hbw.out)
  have HBW := Lib.hid (HBA.out.trans (hbw.out.mono HBA.out.size))
  have hlw := (HSK.out w5 hbw.out).2
  have hqw := (hbw.out.block B1 l1).trans HQ0.out
  have HQW := Lib.hid hqw
  have hps : ∀ p ∈ g.prods, (-1000000 ≤ p.1 ∧ p.1 ≤ 1000000) ∧ p.2.length ≤ 100000 ∧ ∀ s ∈ p.2, -1000000 ≤ s ∧ s ≤ 1000000 := fun p hp => by
    have h := HCK.out.pv p hp
    refine ⟨by omega, by omega, fun s hs => ?_⟩
    have := h.2.2 s hs
    unfold symOk at this
    omega
  have HPS := Lib.hid hps
  have HALL : Hid (∀ W, Calls Try.prog 13 #[.int .i64 g.terms.length, .int .i64 3] W fun e w' => Below W.heap.size W w' ∧ AllEnd W.heap.size g.terms.length 3 e w') := Lib.hid fun W => all_any g.terms.length 3 (by omega) (by omega) W
  have HWK := Lib.hid fun W => wakes6_any W
  clear hbw hqw hps HSK HG c0 c1 c2 l1' l1 HQ0 HBA l5
  rename World => W5
  rcases hcase with ⟨hfr, rfl, B, b, F, rfl, htab⟩ | ⟨hfr, rfl, rfl⟩
  · have HTB := Lib.hid htab
    have HFI := Lib.hid (htab.is HCK.out)
    clear htab hfr
    go_upto_region 6 with (go_at_call 13; refine (HALL.out _).mono ?_; rintro e w6 ⟨hb6, ga, gcap, rs, rfl, hrs, hat⟩)
    have HB6 := Lib.hid hb6
    have HAT := Lib.hid hat
    have HRS := Lib.hid hrs
    have hrl : rs.length ≤ 37449 := by
      have : rs.length = (rs.map RowL.row).length := by simp
      rw [this, hrs]
      exact Al.levs_bound (by omega) (by omega)
    have hgl := hat.lt
    have HTB6 := Lib.hid (HTB.out.below hb6)
    clear hb6 hat hrs d0 d1 d2 HTB
    go_loopw [38] (fun i wr => ∃ k : Nat, k ≤ rs.length ∧ i = .int .i64 k ∧ Hid (Below w6.heap.size w6 wr)) (fun i _ => rs.length - (intOf i).toNat)
    case atStart => exact ⟨0, by omega, rfl, Lib.hid (Below.refl _ _)⟩
    case round =>
      obtain ⟨k, hk, rfl, HBR⟩ := hrel
      by_cases hkl : k < rs.length
      · obtain ⟨r, hr⟩ : ∃ r, rs[k]? = some r := ⟨_, List.getElem?_eq_getElem hkl⟩
        obtain ⟨ra, rc, u⟩ := r
        have hrm := List.mem_of_getElem? hr
        have c0 := (HAT.out.below HBR.out).own.cellAt k (by omega)
        rw [rowVs_at hr] at c0
        have hgl2 := (HAT.out.below HBR.out).lt
        have e1 : (k : Int) < rs.length := by omega
        have hu2 : u ∈ Al.levs g.terms.length 3 := by rw [← HRS.out]; exact List.mem_map_of_mem (f := RowL.row) hrm
        obtain ⟨hul, hut⟩ := Al.levs_word.1 hu2
        have HUT := Lib.hid hut
        have hW5 : Below W5.heap.size W5 wr := HB6.out.trans (HBR.out.mono HB6.out.size)
        have HSP := Lib.hid (spans_any _ g ra rc u wr (HGW.out.below hW5) ((HAT.out.below HBR.out).rows _ hrm) (by omega) (by omega) HPS.out)
        have hq := (hW5.block B1 hlw).trans HQW.out
        have y0 := (blk_cell (i := 0) (u := .slice at_ g.terms.length ct) hq rfl).1
        have y1 := (blk_cell (i := 1) (u := .slice an g.nons.length cn) hq rfl).1
        have y2 := (blk_cell (i := 2) (u := .slice ap ls.length cp) hq rfl).1
        have y3 := heap_lt hq
        have HQ := Lib.hid hq
        clear hr hrm hu2 hut hW5 hq
        simp only at c0
        go_upto_region 9 with (go_at_call 14; refine HSP.out.mono ?_; rintro e w7 ⟨hb7, BS, BH, H, rfl, hsp, his, hBS, hBH⟩)
        have HB7 := Lib.hid (HBR.out.trans (hb7.mono HBR.out.size))
        have hq := (hb7.block B1 y3).trans HQ.out
        have z1 := (blk_cell (i := 1) (u := .slice an g.nons.length cn) hq rfl).1
        have z3 := heap_lt hq
        have HIS := Lib.hid his
        have HSPA := Lib.hid hsp
        have HT7 := Lib.hid (HTB6.out.below HB7.out)
        clear hb7 hq hsp his hBS hBH y0 y1 y2 c0 hgl2 y3
        go_upto_region 10 with fail
        go_loopw [48] (fun i wx => ∃ j : Nat, j ≤ g.nons.length ∧ i = .int .i64 j ∧ Hid (Below w7.heap.size w7 wx)) (fun i _ => g.nons.length - (intOf i).toNat)
        case atStart => exact ⟨0, by omega, rfl, Lib.hid (Below.refl _ _)⟩
        case round =>
          rename World => wx
          obtain ⟨j, hj, rfl, HBX⟩ := hrel
          by_cases hjl : j < g.nons.length
          · have e2 : (j : Int) < g.nons.length := by omega
            have HSPX := Lib.hid (HSPA.out.below HBX.out)
            have HCA := Lib.hid (can_any BS BH ra rc u H (100 + (j : Int)) 0 u.length wx HSPX.out (by omega) (by omega) (by omega) (by omega) (by omega))
            have hd : Sp.canP u H (100 + (j : Int)) 0 u.length ↔ Sp.DerF g.prods [100 + (j : Int)] u := by rw [HIS.out.can (Nat.zero_le _) (Nat.le_refl _), Sp.seg_all]
            have h1 : Sp.canP u H (100 + (j : Int)) 0 u.length → (ofF g.terms.length F [100 + (j : Int)] 1).testBit (hdN u) = true := fun h => der_first HCK.out HFI.out (hd.1 h) HUT.out
            have H1 := Lib.hid h1
            have HTX := Lib.hid (HT7.out.below HBX.out)
            have hbx := boxA wx (.cells #[.int .i64 (100 + (j : Int))] 3)
            have HOF := Lib.hid (fof_any B b g.terms.length F (some ⟨wx.heap.size, 0, none⟩) 1 [100 + (j : Int)] (wx.alloc (.cells #[.int .i64 (100 + (j : Int))] 3)) (HTX.out.at_.below hbx) (cells_new wx _ _) (by simp) (fun s hs => by simp only [List.mem_singleton] at hs; omega) HFI.out.low (by omega) (by rw [HFI.out.len]; omega))
            have hlo := low_lt (low_of (t := g.terms.length) (by omega) HFI.out.low [100 + (j : Int)] 1 (low_one _)) (by omega)
            have HBX2 := Lib.hid (HBX.out.trans (hbx.mono HBX.out.size))
            have HLO := Lib.hid hlo
            clear hd h1 hbx hlo
            go_upto_if 57 with (go_at_call 15; refine HCA.out.mono ?_; rintro e w8 ⟨⟨bb, rfl, hb⟩, rfl⟩)
            have h1 := H1.out
            rw [← hb] at h1
            clear H1 hb HCA
            cases bb
            · go_wp2
              exact ⟨⟨j + 1, by omega, by go_num, HBX⟩, by simp [intOf]; omega⟩
            · have h5 := h1 rfl
              clear h1
              generalize ofF g.terms.length F [100 + (j : Int)] 1 = X at *
              by_cases hz : u.length = 0
              · have e3 : ¬ (0 : Int) < (u.length : Int) := by omega
                have h6 : shas X ((0 : Nat) : Int) = true := by
                  rw [shas_bit X 0 (by omega)]
                  have hu0 : u = [] := List.length_eq_zero_iff.1 hz
                  rw [hu0] at h5
                  exact h5
                have HHA : Hid (∀ W, Calls Try.prog 16 #[.int .u64 X, .int .i64 0] W fun e w' => e = .returned (.bool true) ∧ w' = W) := Lib.hid fun W => (has_any X ((0 : Nat) : Int) HLO.out W).mono fun e w' ⟨he, hw⟩ => ⟨he.trans (by rw [h6]), hw⟩
                clear h5 h6 hz
                go_wp2_with (first
                  | (go_at_call 24; refine HOF.out.mono ?_; rintro e w9 ⟨rfl, hb9⟩)
                  | (go_at_call 16; refine (HHA.out _).mono ?_; rintro e w10 ⟨rfl, rfl⟩))
                exact ⟨⟨j + 1, by omega, by go_num, Lib.hid (HBX2.out.trans (hb9.mono HBX2.out.size))⟩, by simp [intOf]; omega⟩
              · have e3 : (0 : Int) < (u.length : Int) := by omega
                obtain ⟨a, ha⟩ : ∃ a, u[0]? = some a := ⟨_, List.getElem?_eq_getElem (by omega)⟩
                have hat2 := HUT.out a (List.mem_of_getElem? ha)
                have hh : hdN u = a.toNat := by
                  cases u with
                  | nil => simp at hz
                  | cons x u => simp at ha; rw [ha]; rfl
                obtain ⟨b4, o4, hra, hb4, hc4⟩ := HSPX.out.row.get (by unfold nums; intro e; rw [List.map_eq_nil_iff] at e; rw [e] at hz; simp at hz)
                have u0 := hc4 0 _ (nums_at ha)
                rw [Nat.add_zero] at u0
                have h6 : shas X a = true := by
                  rw [show a = ((a.toNat : Nat) : Int) by omega, shas_bit X a.toNat (by omega), ← hh]
                  exact h5
                have HHA : Hid (∀ W, Calls Try.prog 16 #[.int .u64 X, .int .i64 a] W fun e w' => e = .returned (.bool true) ∧ w' = W) := Lib.hid fun W => (has_any X a HLO.out W).mono fun e w' ⟨he, hw⟩ => ⟨he.trans (by rw [h6]), hw⟩
                subst hra
                clear h5 h6 hz ha hh hc4
                go_wp2_with (first
                  | (go_at_call 24; refine HOF.out.mono ?_; rintro e w9 ⟨rfl, hb9⟩)
                  | (go_at_call 16; refine (HHA.out _).mono ?_; rintro e w10 ⟨rfl, rfl⟩))
                exact ⟨⟨j + 1, by omega, by go_num, Lib.hid (HBX2.out.trans (hb9.mono HBX2.out.size))⟩, by simp [intOf]; omega⟩
          · have e2 : ¬ (j : Int) < g.nons.length := by omega
            have HBN := Lib.hid (HB7.out.trans (HBX.out.mono HB7.out.size))
            go_wp2
            exact ⟨⟨k + 1, by omega, by go_num, HBN⟩, by simp [intOf]; omega⟩
      · have e1 : ¬ (k : Int) < rs.length := by omega
        go_wp2_with (go_at_call 21; refine (HWK.out _).mono ?_; rintro e w8 ⟨rfl, hb8⟩)
        go_ret
        exact ⟨rfl, HBW.out.trans ((HB6.out.trans ((HBR.out.trans (hb8.mono HBR.out.size)).mono HB6.out.size)).mono HBW.out.size)⟩
  · go_wp2_with (go_at_call 21; refine (HWK.out _).mono ?_; rintro e w8 ⟨rfl, hb8⟩)
    go_ret
    exact ⟨rfl, HBW.out.trans (hb8.mono HBW.out.size)⟩
end Go.Proofs.Ytflfmcikfiaoiaa
