/- TreeAt: walked. -/
import Derived.Test.YtodikfihhggmcaaTreeO
import Derived.Test.YtodikfihhggmcaaTreeG
import Derived.Test.YtodikfihhggmcaaTreeW
import Derived.Test.YtodikfihhggmcaaPlayG0
import Derived.Deep.RegionHeld3
set_option linter.unusedVariables false
namespace Go.Proofs.Ytodikfihhggmcaa
open Go.RowKit
open Doc

/-- A raw grammar of which nothing is spoilt. -/
def RawX.calm (x : RawX) : RawX := ⟨x.pick, x.terms, x.nons, 0, x.rows, x.ra, x.rc, x.word⟩
theorem calm_at {w : World} {x : RawX} (h : RawAt w x) : RawAt w x.calm := ⟨h.cells, h.each, h.wide⟩
theorem calm_wide {x : RawX} (h : RawWide x) : RawWide x.calm := ⟨h.1, h.2.1, h.2.2.1, ⟨by show (-9223372036854775808 : Int) ≤ 0; omega, by show (0 : Int) ≤ 9223372036854775807; omega⟩, h.2.2.2.2⟩
theorem check_shortN {g : Gr} (h : CheckG g) : ShortN g := ⟨fun x hx => by have := kind_len (x := x) (by rw [h.tk x hx]; decide); omega, fun x hx => by have := kind_len (x := x) (by rw [h.nk x hx]; decide); omega⟩

set_option maxRecDepth 100000 in
set_option maxHeartbeats 8000000 in
theorem treeAt_walk (x : RawX) (a : Option Addr) (len cap : Nat) (zs : List Int) (deep prod dot place : Int) (w : World) (hx : RawAt w x) (hwd : RawWide x) (hr : IsRow .i64 w a len cap zs) (hcap : cap * 8 ≤ 140737488351232) (hp : -9223372036854775808 ≤ prod ∧ prod ≤ 9223372036854775807) :
    Calls Try.prog 11 #[x.v, .slice a len cap, .int .i64 deep, .int .i64 prod, .int .i64 dot, .int .i64 place] w fun e w' => e = .returned (.bool true) ∧ Below w.heap.size w w' := by
  have hln := row_len hr
  have HGR := Lib.hid fun W (h : Below w.heap.size w W) => grammar_0 x.calm W ((calm_at hx).below h) (calm_wide hwd) (by show (0 : Int) % 40 < 28; omega)
  have HZ := Lib.hid (row_cells hr)
  have HZW := Lib.hid (row_wide hr)
  have HZL := Lib.hid hln
  have HCP := Lib.hid hcap
  have HWK := Lib.hid fun W => wakes8_any W
  obtain ⟨xp, xt, xn, xh, rows, xa, xc, word⟩ := x
  unfold RawX.calm RawX.v at *
  simp only at *
  have hb0 := box_belowT w (.cells #[.int .i64 xp, .int .i64 xt, .int .i64 xn, .int .i64 0, .slice xa rows.length xc, .string word] 24)
  have HG1 := Lib.hid (HGR.out _ hb0)
  have HB1 := Lib.hid hb0
  clear hb0 HGR hx hwd hr hcap hln
  go_enter Try.func11, Try.ntmps11
  go_upto_region 3 with (go_at_call 15; (with_reducible refine HG1.out.mono ?_); rintro e w2 ⟨hb2, a1, a2, a3, c1, c2, c3, g, rfl, hg2, hc2⟩)
  obtain ⟨hbG, _, qG⟩ := one_alloc w2 (.cells #[.slice a1 g.terms.length c1, .slice a2 g.nons.length c2, .slice a3 g.prods.length c3] 28)
  have HBG := Lib.hid ((HB1.out.trans (hb2.mono HB1.out.size)).trans (hbG.mono (Nat.le_trans HB1.out.size hb2.size)))
  have HQG := Lib.hid qG
  have HGG := Lib.hid (hg2.below hbG)
  have HCG := Lib.hid hc2
  clear hb2 hg2 hc2 hbG qG HG1 HB1
  generalize w2.alloc (.cells #[.slice a1 g.terms.length c1, .slice a2 g.nons.length c2, .slice a3 g.prods.length c3] 28) = S at *
  generalize w2.heap.size = BG at *
  have HOF := Lib.hid (treeOf_any g HCG.out a1 a2 a3 c1 c2 c3 a cap (zs.take len) deep 0 0 S HGG.out (HZ.out.below HBG.out) (by have := HZL.out; omega) (by have := HCP.out; omega) HZW.out (by decide))
  rw [HZL.out.1] at HOF
  unfold OfEnd at HOF
  have g0 := (blk_cell (i := 0) HQG.out rfl).1
  have g1 := (blk_cell (i := 1) HQG.out rfl).1
  have g2 := (blk_cell (i := 2) HQG.out rfl).1
  have lG := heap_lt HQG.out
  go_upto_region 4 with (go_at_call 66; (with_reducible refine HOF.out.mono ?_); rintro e w3 ⟨hb3, tl, rfl, hli, hck, hsz, hsy⟩)
  obtain ⟨hbT, _, qT⟩ := one_alloc w3 (.cells #[.int .i64 tl.sym, .int .i64 tl.prod, .slice tl.a tl.kids.length tl.c] 86)
  have hb3T := hb3.trans (hbT.mono hb3.size)
  have HBT := Lib.hid (HBG.out.trans (hb3T.mono HBG.out.size))
  have HQT := Lib.hid qT
  have HLI := Lib.hid (hli.under hbT)
  have HSZ := Lib.hid hsz
  have q2 := (hb3T.block _ lG).trans HQG.out
  have HQ2 := Lib.hid q2
  clear hb3 hbT qT hli hck hsz hsy hb3T g0 g1 g2 lG HOF
  generalize w3.alloc (.cells #[.int .i64 tl.sym, .int .i64 tl.prod, .slice tl.a tl.kids.length tl.c] 86) = S3 at *
  generalize w3.heap.size = T at *
  have g2 := (blk_cell (i := 2) q2 rfl).1
  have lG := heap_lt q2
  clear q2
  have hp24 : g.prods.length ≤ 24 := HCG.out.p24
  go_upto_if 24 with fail
  go_cut [3, 4, 5, 24] from 25 to 37 (fun p d l _ wx => ∃ P D L : Int, p = .int .i64 P ∧ d = .int .i64 D ∧ l = .int .i64 L ∧ S3 = wx)
  case first =>
    by_cases h7 : prod.tmod 7 = 6
    · have h7b : (prod.tmod 7 != 6) = false := by rw [h7]; rfl
      clear h7
      go_wp2_with fail
      go_meet
      case rel => exact ⟨prod, dot, place, rfl, rfl, rfl, rfl⟩
    · have h7b : (prod.tmod 7 != 6) = true := bne_iff_ne.2 h7
      have hsm : (0 : Int) ≤ (g.prods.length : Int) + 2 := by omega
      have hn2 : ((g.prods.length + 2 : Nat) : Int) = (g.prods.length : Int) + 2 := by push_cast; rfl
      obtain ⟨m1, hm1, hl1⟩ : ∃ m : Nat, prod % ((g.prods.length : Int) + 2) = m ∧ m < 100 := ⟨(prod % ((g.prods.length : Int) + 2)).toNat, by have := Int.emod_nonneg prod (show (g.prods.length : Int) + 2 ≠ 0 by omega); omega, by have := Int.emod_nonneg prod (show (g.prods.length : Int) + 2 ≠ 0 by omega); have := Int.emod_lt_of_pos prod (show (0 : Int) < (g.prods.length : Int) + 2 by omega); omega⟩
      obtain ⟨m2, hm2, hl2⟩ : ∃ m : Nat, dot % 5 = m ∧ m < 100 := ⟨(dot % 5).toNat, by omega, by omega⟩
      obtain ⟨m3, hm3, hl3⟩ : ∃ m : Nat, place % 9 = m ∧ m < 100 := ⟨(place % 9).toNat, by omega, by omega⟩
      have HW1 := Lib.hid fun W => (within_any prod ((g.prods.length : Int) + 2) (by omega) (by omega) W).mono fun e w' ⟨he, hw⟩ => (⟨he.trans (by rw [hm1]), hw⟩ : e = Ending.returned (.int .i64 m1) ∧ w' = W)
      have HW2 := Lib.hid fun W => (within_any dot 5 (by omega) (by omega) W).mono fun e w' ⟨he, hw⟩ => (⟨he.trans (by rw [hm2]), hw⟩ : e = Ending.returned (.int .i64 m2) ∧ w' = W)
      have HW3 := Lib.hid fun W => (within_any place 9 (by omega) (by omega) W).mono fun e w' ⟨he, hw⟩ => (⟨he.trans (by rw [hm3]), hw⟩ : e = Ending.returned (.int .i64 m3) ∧ w' = W)
      clear h7 hm1 hm2 hm3 hn2
      go_wp2_with (go_at_call 22; first
        | ((with_reducible refine (HW1.out _).mono ?_); rintro e w5 ⟨rfl, hw5⟩; rw [hw5]; clear hw5)
        | ((with_reducible refine (HW2.out _).mono ?_); rintro e w5 ⟨rfl, hw5⟩; rw [hw5]; clear hw5)
        | ((with_reducible refine (HW3.out _).mono ?_); rintro e w5 ⟨rfl, hw5⟩; rw [hw5]; clear hw5))
      go_meet
      case rel => exact ⟨_, _, _, rfl, rfl, rfl, rfl⟩
  case rest =>
    obtain ⟨P, D, L, rfl, rfl, rfl, rfl⟩ := hcut
    clear g2 lG
    have HAT := Lib.hid fun W (hW : Below S3.heap.size S3 W) => tat_any tl _ P D L W (HLI.out.under hW) (by have := HSZ.out; omega)
    have HRT := Lib.hid fun W (hW : Below S3.heap.size S3 W) => rAt_any tl _ P D L W (HLI.out.under hW) (by have := HSZ.out; omega)
    unfold Tl.v at HAT HRT
    generalize atT P D L tl.plain 0 = B at *
    have HSK : Hid (∀ W W' : World, Hid (Below S3.heap.size S3 W) → Below W.heap.size W W' → (W'.cell? ⟨T, 0, none⟩ = some (.int .i64 tl.sym) ∧ W'.cell? ⟨T, 1, none⟩ = some (.int .i64 tl.prod) ∧ W'.cell? ⟨T, 2, none⟩ = some (.slice tl.a tl.kids.length tl.c)) ∧ Hid (Below S3.heap.size S3 W')) := Lib.hid fun W W' h k => by
      have hb := h.out.trans (k.mono h.out.size)
      have z1 := (hb.block _ (heap_lt HQT.out)).trans HQT.out
      exact ⟨⟨(blk_cell z1 rfl).1, (blk_cell z1 rfl).1, (blk_cell z1 rfl).1⟩, Lib.hid hb⟩
    have HB33 : Hid (Below S3.heap.size S3 S3) := Lib.hid (Below.refl _ _)
    have HBW := Lib.hid HBT.out
    go_upto_region 6 with fail
    go_region_held3 (fun w' => (w'.cell? ⟨T, 0, none⟩ = some (.int .i64 tl.sym) ∧ w'.cell? ⟨T, 1, none⟩ = some (.int .i64 tl.prod) ∧ w'.cell? ⟨T, 2, none⟩ = some (.slice tl.a tl.kids.length tl.c)) ∧ Hid (Below S3.heap.size S3 w'))
      (first | (exact HSK.out _ _ HB33 (Below.refl _ _).drew) | (exact HSK.out _ _ (And.right (show _ ∧ Hid (Below S3.heap.size S3 _) by assumption)) (by assumption)) | go_keep)
      (first
        | (go_at_call 63; (with_reducible refine (HAT.out _ (And.right (show _ ∧ Hid (Below S3.heap.size S3 _) by assumption)).out).mono ?_); rintro e w5 ⟨rfl, hb5⟩)
        | (go_at_call 72; (with_reducible refine (HRT.out _ (And.right (show _ ∧ Hid (Below S3.heap.size S3 _) by assumption)).out).mono ?_); rintro e w5 ⟨rfl, hb5⟩)
        | (go_at_call 62; refine (HWK.out _).mono ?_; rintro e w5 ⟨rfl, hb5⟩))
    all_goals
      go_wp2
      go_ret
      exact ⟨rfl, HBW.out.trans ((And.right (show _ ∧ Hid (Below S3.heap.size S3 _) by assumption)).out.mono HBW.out.size)⟩

end Go.Proofs.Ytodikfihhggmcaa
