/- ReachWords: walked. -/
import Derived.Test.YtflfmcikfiaoiaaSpanR
import Derived.Test.YtflfmcikfiaoiaaSpanW
import Derived.Test.YtflfmcikfiaoiaaAllW
import Derived.Test.YtflfmcikfiaoiaaReach
import Derived.Deep.Cut
import Derived.Deep.RegionHeld3
set_option linter.unusedVariables false
namespace Go.Proofs.Ytflfmcikfiaoiaa
open Go.RowKit
open Doc

set_option maxRecDepth 100000 in
set_option maxHeartbeats 16000000 in
theorem reachWords_walk (x : RawX) (w : World) (hx : RawAt w x) : Calls Try.prog 3 #[x.v] w fun e w' => e = .returned (.bool true) ∧ Below w.heap.size w w' := by
  have hck : CheckG x.any := anyF_check x.terms x.nons x.plain
  have hAN := Lib.hid (fun W h => any_gram x W h)
  have HCK := Lib.hid hck
  have ht8 := hck.t8
  have hn8 := hck.n8
  have hn1 := hck.n1
  have ht1 := hck.t1
  have hp24 := hck.p24
  generalize hgg : x.any = g at *
  have HX := Lib.hid hx
  clear hx hck hgg
  obtain ⟨xp, xt, xn, xh, rows, xa, xc, word⟩ := x
  unfold RawX.v at *
  simp only at *
  have hb0 : Below w.heap.size w (w.alloc (.cells #[.int .i64 xp, .int .i64 xt, .int .i64 xn, .int .i64 xh, .slice xa rows.length xc, .string word] 24)) := (Below.refl _ _).alloc (Nat.le_refl _) _
  have HA1 := Lib.hid (hAN.out _ (HX.out.below hb0))
  have HB0 := Lib.hid hb0
  clear hAN hb0
  go_enter Try.func3, Try.ntmps3
  go_upto_region 2 with (go_at_call 10; refine HA1.out.mono ?_; rintro e w1 ⟨hb1, at_, an, ap, ct, cn, cp, ls, rfl, hg1, hls, hc1, hr1⟩)
  have hbA := (HB0.out.trans (hb1.mono HB0.out.size)).alloc (Nat.le_trans HB0.out.size hb1.size) (.cells #[.slice at_ g.terms.length ct, .slice an g.nons.length cn, .slice ap ls.length cp] 28)
  have hbS : Below w1.heap.size w1 (w1.alloc (.cells #[.slice at_ g.terms.length ct, .slice an g.nons.length cn, .slice ap ls.length cp] 28)) := (Below.refl _ _).alloc (Nat.le_refl _) _
  have q0 := heap_alloc_new w1 (.cells #[.slice at_ g.terms.length ct, .slice an g.nons.length cn, .slice ap ls.length cp] 28)
  have HG := Lib.hid (hg1.below hbS)
  have HBA := Lib.hid hbA
  have HQ0 := Lib.hid q0
  clear hb1 hg1 hls hc1 hr1 hbA hbS q0 HA1 HX HB0
  generalize w1.alloc (.cells #[.slice at_ g.terms.length ct, .slice an g.nons.length cn, .slice ap ls.length cp] 28) = S at *
  generalize w1.heap.size = B1 at *
  have l1 := heap_lt HQ0.out
  have hSK : ∀ W, Below S.heap.size S W → (W.cell? ⟨B1, 0, none⟩ = some (.slice at_ g.terms.length ct) ∧ W.cell? ⟨B1, 1, none⟩ = some (.slice an g.nons.length cn) ∧ W.cell? ⟨B1, 2, none⟩ = some (.slice ap ls.length cp)) ∧ B1 < W.heap.size := fun W hb => by
    have q := (hb.block B1 l1).trans HQ0.out
    exact ⟨⟨(blk_cell q rfl).1, (blk_cell q rfl).1, (blk_cell q rfl).1⟩, heap_lt q⟩
  have HSK := Lib.hid hSK
  clear hSK
  have HN0 := Lib.hid (rnul_is HCK.out)
  have HF0 := Lib.hid (rfru_is HCK.out)
  have HNN := Lib.hid fun W (hW : Below S.heap.size S W) => (nullable_any _ g W (HG.out.below hW) HCK.out).mono fun e w' ⟨⟨r, he, hr⟩, hb⟩ => (⟨he.trans (by rw [hr.uniq (rnul_is HCK.out)]), hb⟩ : e = Ending.returned (.int .u64 (iterG (gsF vanI g.prods) 0 g.nons.length : Nat)) ∧ Below W.heap.size W w')
  have HFF := Lib.hid fun W (hW : Below S.heap.size S W) => (fruitful_any _ g W (HG.out.below hW) HCK.out).mono fun e w' ⟨⟨r, he, hr⟩, hb⟩ => (⟨he.trans (by rw [hr.uniq (rfru_is HCK.out)]), hb⟩ : e = Ending.returned (.int .u64 (iterG (gsF bearI g.prods) 0 g.nons.length : Nat)) ∧ Below W.heap.size W w')
  generalize iterG (gsF vanI g.prods) 0 g.nons.length = N0 at *
  generalize iterG (gsF bearI g.prods) 0 g.nons.length = F0 at *
  have HSK4 : Hid (∀ W W' : World, Hid (Below S.heap.size S W) → Below W.heap.size W W' → (W'.cell? ⟨B1, 0, none⟩ = some (.slice at_ g.terms.length ct) ∧ W'.cell? ⟨B1, 1, none⟩ = some (.slice an g.nons.length cn) ∧ W'.cell? ⟨B1, 2, none⟩ = some (.slice ap ls.length cp)) ∧ Hid (Below S.heap.size S W')) := Lib.hid fun W W' h k => by
    have hb := h.out.trans (k.mono h.out.size)
    exact ⟨(HSK.out W' hb).1, Lib.hid hb⟩
  have HB44 : Hid (Below S.heap.size S S) := Lib.hid (Below.refl _ _)
  have HTO : Hid (∀ W, Hid (Below S.heap.size S W) → Below S.heap.size S W) := Lib.hid fun W h => h.out
  obtain ⟨⟨c0, c1, c2⟩, l1'⟩ := HSK.out S (Below.refl _ _)
  go_region_held3 (fun w' => (w'.cell? ⟨B1, 0, none⟩ = some (.slice at_ g.terms.length ct) ∧ w'.cell? ⟨B1, 1, none⟩ = some (.slice an g.nons.length cn) ∧ w'.cell? ⟨B1, 2, none⟩ = some (.slice ap ls.length cp)) ∧ Hid (Below S.heap.size S w'))
    (first | (exact HSK4.out _ _ HB44 (Below.refl _ _).drew) | (exact HSK4.out _ _ (And.right (show _ ∧ Hid (Below S.heap.size S _) by assumption)) (by assumption)) | go_keep)
    (first
      | (go_at_call 11; with_reducible refine (HNN.out _ (HTO.out _ (And.right (show _ ∧ Hid (Below S.heap.size S _) by assumption)))).mono ?_; rintro e w5 ⟨rfl, hb5⟩)
      | (go_at_call 12; with_reducible refine (HFF.out _ (HTO.out _ (And.right (show _ ∧ Hid (Below S.heap.size S _) by assumption)))).mono ?_; rintro e w5 ⟨rfl, hb5⟩))
  have HW5 := (show _ ∧ Hid (Below S.heap.size S w5) by assumption)
  obtain ⟨⟨d0, d1, d2⟩, hbw⟩ := HW5
  have HGW := Lib.hid (HG.out.below hbw.out)
  have HBW := Lib.hid (HBA.out.trans (hbw.out.mono HBA.out.size))
  have hlw := (HSK.out w5 hbw.out).2
  have hqw := (hbw.out.block B1 l1).trans HQ0.out
  have HQW := Lib.hid hqw
  have hps : ∀ p ∈ g.prods, (-1000000 ≤ p.1 ∧ p.1 ≤ 1000000) ∧ p.2.length ≤ 100000 ∧ ∀ s ∈ p.2, -1000000 ≤ s ∧ s ≤ 1000000 := fun p hp => by
    have h := HCK.out.pv p hp
    refine ⟨by omega, by omega, fun s hs => ?_⟩
    have := h.2.2 s hs
    unfold symOk at this
    omega
  have HPS := Lib.hid hps
  have HALL : Hid (∀ W, Calls Try.prog 13 #[.int .i64 g.terms.length, .int .i64 2] W fun e w' => Below W.heap.size W w' ∧ AllEnd W.heap.size g.terms.length 2 e w') := Lib.hid fun W => all_any g.terms.length 2 (by omega) (by omega) W
  have HWK := Lib.hid fun W => wakes5_any W
  clear hbw hqw hps HSK HSK4 HB44 HTO HG HNN HFF
  clear c0 c1 c2 l1' l1 HQ0 HBA
  rename World => W5
  go_upto_region 4 with (go_at_call 13; refine (HALL.out _).mono ?_; rintro e w6 ⟨hb6, ga, gcap, rs, rfl, hrs, hat⟩)
  have HB6 := Lib.hid hb6
  have HAT := Lib.hid hat
  have HRS := Lib.hid hrs
  have hrl : rs.length ≤ 37449 := by
    have : rs.length = (rs.map RowL.row).length := by simp
    rw [this, hrs]
    exact Al.levs_bound (by omega) (by omega)
  have hgl := hat.lt
  clear hb6 hat hrs d0 d1 d2
  go_loopw [22] (fun i wr => ∃ k : Nat, k ≤ rs.length ∧ i = .int .i64 k ∧ Hid (Below w6.heap.size w6 wr)) (fun i _ => rs.length - (intOf i).toNat)
  case atStart => exact ⟨0, by omega, rfl, Lib.hid (Below.refl _ _)⟩
  case round =>
    obtain ⟨k, hk, rfl, HBR⟩ := hrel
    by_cases hkl : k < rs.length
    · obtain ⟨r, hr⟩ : ∃ r, rs[k]? = some r := ⟨_, List.getElem?_eq_getElem hkl⟩
      obtain ⟨ra, rc, u⟩ := r
      have hrm := List.mem_of_getElem? hr
      have c0 := (HAT.out.below HBR.out).own.cellAt k (by omega)
      rw [rowVs_at hr] at c0
      have hgl2 := (HAT.out.below HBR.out).lt
      have e1 : (k : Int) < rs.length := by omega
      have hu2 : u ∈ Al.levs g.terms.length 2 := by rw [← HRS.out]; exact List.mem_map_of_mem (f := RowL.row) hrm
      obtain ⟨hul, hut⟩ := Al.levs_word.1 hu2
      have HUT : Hid (∀ s ∈ u, s < 100) := Lib.hid fun s hs => by have := hut s hs; omega
      have hW5 : Below W5.heap.size W5 wr := HB6.out.trans (HBR.out.mono HB6.out.size)
      have HSP := Lib.hid (spans_any _ g ra rc u wr (HGW.out.below hW5) ((HAT.out.below HBR.out).rows _ hrm) (by omega) (by omega) HPS.out)
      have hq := (hW5.block B1 hlw).trans HQW.out
      have y0 := (blk_cell (i := 0) (u := .slice at_ g.terms.length ct) hq rfl).1
      have y1 := (blk_cell (i := 1) (u := .slice an g.nons.length cn) hq rfl).1
      have y2 := (blk_cell (i := 2) (u := .slice ap ls.length cp) hq rfl).1
      have y3 := heap_lt hq
      have HQ := Lib.hid hq
      clear hr hrm hu2 hut hW5 hq
      simp only at c0
      go_upto_region 7 with (go_at_call 14; refine HSP.out.mono ?_; rintro e w7 ⟨hb7, BS, BH, H, rfl, hsp, his, hBS, hBH⟩)
      have HB7 := Lib.hid (HBR.out.trans (hb7.mono HBR.out.size))
      have hq := (hb7.block B1 y3).trans HQ.out
      have z1 := (blk_cell (i := 1) (u := .slice an g.nons.length cn) hq rfl).1
      have z3 := heap_lt hq
      have HIS := Lib.hid his
      have HSPA := Lib.hid hsp
      clear hb7 hq hsp his hBS hBH y0 y1 y2 c0 hgl2 y3
      go_upto_region 8 with fail
      go_loopw [32] (fun i wx => ∃ j : Nat, j ≤ g.nons.length ∧ i = .int .i64 j ∧ wx = w7) (fun i _ => g.nons.length - (intOf i).toNat)
      case atStart => exact ⟨0, by omega, rfl, rfl⟩
      case round =>
        obtain ⟨j, hj, rfl, hwx⟩ := hrel
        subst hwx
        by_cases hjl : j < g.nons.length
        · have e2 : (j : Int) < g.nons.length := by omega
          have HCA := Lib.hid (can_any BS BH ra rc u H (100 + (j : Int)) 0 u.length wr (by first | exact HSPA.out | assumption) (by omega) (by omega) (by omega) (by omega) (by omega))
          have hd : Sp.canP u H (100 + (j : Int)) 0 u.length ↔ Sp.DerF g.prods [100 + (j : Int)] u := by rw [HIS.out.can (Nat.zero_le _) (Nat.le_refl _), Sp.seg_all]
          have hfb := HF0.out.bit (show j < 64 by omega)
          have hnb := HN0.out.bit (show j < 64 by omega)
          have h1 : Sp.canP u H (100 + (j : Int)) 0 u.length → shas F0 (j : Int) = true := fun h => hfb.2 (der_fru (hd.1 h) HUT.out _ (by simp) (by omega))
          have h2 : u.length = 0 → (Sp.canP u H (100 + (j : Int)) 0 u.length ↔ shas N0 (j : Int) = true) := fun h => by
            have hu0 : u = [] := List.length_eq_zero_iff.1 h
            rw [hd, hnb, hu0]
            exact der_nul_iff
          have H1 := Lib.hid h1
          have H2 := Lib.hid h2
          have HHF := Lib.hid (has_any F0 (j : Int) HF0.out.1 wr)
          have HHN := Lib.hid (has_any N0 (j : Int) HN0.out.1 wr)
          clear hd hfb hnb h1 h2
          go_upto_region 11 with (go_at_call 15; refine HCA.out.mono ?_; rintro e w8 ⟨⟨b, rfl, hb⟩, rfl⟩)
          have h1 := H1.out
          have h2 := H2.out
          rw [← hb] at h1 h2
          clear H1 H2 hb HCA
          by_cases hz : u.length = 0
          · have e3 : ((u.length : Int) == 0) = true := beq_iff_eq.2 (by omega)
            have h3 := h2 hz
            have h4 : b = shas N0 (j : Int) := by
              cases b <;> cases hs : shas N0 (j : Int) <;> simp_all
            clear h2 h3 hz
            generalize shas N0 (j : Int) = nb at *
            subst h4
            cases b
            · go_wp2_with (first | (go_at_call 16; with_reducible refine HHN.out.mono ?_; rintro e w9 ⟨rfl, rfl⟩) | (go_at_call 16; with_reducible refine HHF.out.mono ?_; rintro e w9 ⟨rfl, rfl⟩))
              exact ⟨⟨j + 1, by omega, by go_num, by first | trivial | rfl⟩, by simp [intOf]; omega⟩
            · have h5 := h1 rfl
              clear h1
              rw [h5] at HHF
              go_wp2_with (first | (go_at_call 16; with_reducible refine HHN.out.mono ?_; rintro e w9 ⟨rfl, rfl⟩) | (go_at_call 16; with_reducible refine HHF.out.mono ?_; rintro e w9 ⟨rfl, rfl⟩))
              exact ⟨⟨j + 1, by omega, by go_num, by first | trivial | rfl⟩, by simp [intOf]; omega⟩
          · have e3 : ((u.length : Int) == 0) = false := beq_eq_false_iff_ne.2 (by omega)
            clear h2 hz
            cases b
            · go_wp2
              exact ⟨⟨j + 1, by omega, by go_num, by first | trivial | rfl⟩, by simp [intOf]; omega⟩
            · have h5 := h1 rfl
              clear h1
              rw [h5] at HHF
              go_wp2_with (go_at_call 16; with_reducible refine HHF.out.mono ?_; rintro e w9 ⟨rfl, rfl⟩)
              exact ⟨⟨j + 1, by omega, by go_num, by first | trivial | rfl⟩, by simp [intOf]; omega⟩
        · have e2 : ¬ (j : Int) < g.nons.length := by omega
          go_wp2
          exact ⟨⟨k + 1, by omega, by go_num, HB7⟩, by simp [intOf]; omega⟩
    · have e1 : ¬ (k : Int) < rs.length := by omega
      go_wp2_with (go_at_call 17; refine (HWK.out _).mono ?_; rintro e w8 ⟨rfl, hb8⟩)
      go_ret
      exact ⟨rfl, HBW.out.trans ((HB6.out.trans ((HBR.out.trans (hb8.mono HBR.out.size)).mono HB6.out.size)).mono HBW.out.size)⟩
end Go.Proofs.Ytflfmcikfiaoiaa
