/- GramParses: walked. -/
import Derived.Test.YtmilldclgheiaaaGParse
import Derived.Test.YtmilldclgheiaaaText4
set_option linter.unusedVariables false
namespace Go.Proofs.Ytmilldclgheiaaa
open Go.RowKit
open Doc

set_option maxRecDepth 100000 in
set_option maxHeartbeats 4000000 in
theorem gramParses_walk (s : ByteArray) (a : Option Addr) (len cap : Nat) (zs : List Int) (raw : Bool) (w : World) (hr : IsRow .i64 w a len cap zs) :
    Calls Try.prog 4 #[.string s, .slice a len cap, .bool raw] w fun e w' => e = .returned (.bool true) ∧ Below w.heap.size w w' := by
  have HT := Lib.hid (text4_any s raw a len cap zs w hr)
  clear hr
  go_enter Try.func4, Try.ntmps4
  go_upto_region 2 with (go_at_call 21; refine HT.out.mono ?_; rintro e w1 ⟨t, ht, rfl, hb1⟩)
  have HB1 := Lib.hid hb1
  have HWK := Lib.hid fun W => wakes_any W
  clear hb1 HT
  cases hp : parse t.data.toList with
  | ok g =>
    as_aux_lemma =>
    have hck := parse_check hp
    have HP := Lib.hid (parse_ok t g w1 (by omega) hp)
    have HQ := Lib.hid fun W => rparse_ok t g W (by omega) hp
    have HCK := Lib.hid hck
    clear hp ht hck
    go_upto_region 3 with (go_at_call 22; refine HP.out.mono ?_; rintro e w2 ⟨v, rfl, hb2, hg2⟩; obtain ⟨a1, a2, a3, c1, c2, c3, rfl⟩ := gram_form hg2.at_)
    have q0 := heap_alloc_new w2 (.cells #[.slice a1 g.terms.length c1, .slice a2 g.nons.length c2, .slice a3 g.prods.length c3] 26)
    have hg := hg2.at_.below (box_below w2 (.cells #[.slice a1 g.terms.length c1, .slice a2 g.nons.length c2, .slice a3 g.prods.length c3] 26))
    have hbw := (HB1.out.trans (hb2.mono HB1.out.size)).trans ((box_below w2 (.cells #[.slice a1 g.terms.length c1, .slice a2 g.nons.length c2, .slice a3 g.prods.length c3] 26)).mono (Nat.le_trans HB1.out.size hb2.size))
    have HQ0 := Lib.hid q0
    have HG := Lib.hid hg
    have HBW := Lib.hid hbw
    have HS := Lib.hid (heap_lt q0)
    clear hg2 hb2 q0 hg hbw HP HB1
    generalize w2.alloc (.cells #[.slice a1 g.terms.length c1, .slice a2 g.nons.length c2, .slice a3 g.prods.length c3] 26) = S at *
    generalize w2.heap.size = B at *
    go_upto_region 4 with (go_at_call 23; refine (HQ.out _).mono ?_; rintro e w3 ⟨v, rfl, hb3, hg3⟩; obtain ⟨b1, b2, b3, d1, d2, d3, rfl⟩ := gram_form hg3.at_)
    have r0 := heap_alloc_new w3 (.cells #[.slice b1 g.terms.length d1, .slice b2 g.nons.length d2, .slice b3 g.prods.length d3] 26)
    have hbx := hb3.trans ((box_below w3 (.cells #[.slice b1 g.terms.length d1, .slice b2 g.nons.length d2, .slice b3 g.prods.length d3] 26)).mono hb3.size)
    have hh := hg3.at_.below (box_below w3 (.cells #[.slice b1 g.terms.length d1, .slice b2 g.nons.length d2, .slice b3 g.prods.length d3] 26))
    have p0 := (hbx.block B HS.out).trans HQ0.out
    have k0 := (blk_cell (i := 0) (u := .slice a1 g.terms.length c1) p0 rfl).1
    have k1 := (blk_cell (i := 1) (u := .slice a2 g.nons.length c2) p0 rfl).1
    have k2 := (blk_cell (i := 2) (u := .slice a3 g.prods.length c3) p0 rfl).1
    have k3 := (blk_cell (i := 0) (u := .slice b1 g.terms.length d1) r0 rfl).1
    have k4 := (blk_cell (i := 1) (u := .slice b2 g.nons.length d2) r0 rfl).1
    have k5 := (blk_cell (i := 2) (u := .slice b3 g.prods.length d3) r0 rfl).1
    have hG2 := HG.out.below hbx
    have HSG := Lib.hid ((sameG_any _ _ g g _ hG2 hh (fits_check HCK.out) (fits_check HCK.out)).mono fun e w' ⟨he, hb⟩ => (⟨he.trans (by simp), hb⟩ : e = Ending.returned (.bool true) ∧ _))
    have hbw := HBW.out.trans (hbx.mono HBW.out.size)
    have HBW2 := Lib.hid hbw
    have l0 := heap_lt p0
    have l1 := heap_lt r0
    clear hg3 hb3 hbx hh p0 r0 hG2 hbw HBW HG HQ0 HS HQ
    generalize w3.alloc (.cells #[.slice b1 g.terms.length d1, .slice b2 g.nons.length d2, .slice b3 g.prods.length d3] 26) = S2 at *
    generalize w3.heap.size = B2 at *
    go_wp2_with (first
      | (go_at_call 24; refine HSG.out.mono ?_; rintro e w4 ⟨rfl, hb4⟩)
      | (go_at_call 20; refine (HWK.out _).mono ?_; rintro e w5 ⟨rfl, hb5⟩))
    go_ret
    have q1 := HBW2.out.trans (hb4.mono HBW2.out.size)
    exact ⟨rfl, q1.trans (hb5.mono q1.size)⟩
  | bad l c x =>
    as_aux_lemma =>
    have HP := Lib.hid (parse_no t l c x w1 (by omega) hp)
    have HQ := Lib.hid fun W => rparse_no t l c x W (by omega) hp
    have HSG := Lib.hid fun W => (sameG_any _ _ _ _ W (gram_nil W) (gram_nil W) fits_nil fits_nil).mono fun e w' ⟨he, hb⟩ => (⟨he.trans (by simp), hb⟩ : e = Ending.returned (.bool true) ∧ Below W.heap.size W w')
    clear hp ht
    go_upto_region 3 with (go_at_call 22; refine HP.out.mono ?_; rintro e w2 ⟨rfl, hb2⟩)
    have q0 := heap_alloc_new w2 (.cells #[.slice none 0 0, .slice none 0 0, .slice none 0 0] 26)
    have hbw := (HB1.out.trans (hb2.mono HB1.out.size)).trans ((box_below w2 (.cells #[.slice none 0 0, .slice none 0 0, .slice none 0 0] 26)).mono (Nat.le_trans HB1.out.size hb2.size))
    have HQ0 := Lib.hid q0
    have HBW := Lib.hid hbw
    have HS := Lib.hid (heap_lt q0)
    clear hb2 q0 hbw HP HB1
    generalize w2.alloc (.cells #[.slice none 0 0, .slice none 0 0, .slice none 0 0] 26) = S at *
    generalize w2.heap.size = B at *
    go_upto_region 4 with (go_at_call 23; refine (HQ.out _).mono ?_; rintro e w3 ⟨rfl, hb3⟩)
    have r0 := heap_alloc_new w3 (.cells #[.slice none 0 0, .slice none 0 0, .slice none 0 0] 26)
    have hbx := hb3.trans ((box_below w3 (.cells #[.slice none 0 0, .slice none 0 0, .slice none 0 0] 26)).mono hb3.size)
    have p0 := (hbx.block B HS.out).trans HQ0.out
    have k0 := (blk_cell (i := 0) (u := .slice none 0 0) p0 rfl).1
    have k1 := (blk_cell (i := 1) (u := .slice none 0 0) p0 rfl).1
    have k2 := (blk_cell (i := 2) (u := .slice none 0 0) p0 rfl).1
    have k3 := (blk_cell (i := 0) (u := .slice none 0 0) r0 rfl).1
    have k4 := (blk_cell (i := 1) (u := .slice none 0 0) r0 rfl).1
    have k5 := (blk_cell (i := 2) (u := .slice none 0 0) r0 rfl).1
    have hbw := HBW.out.trans (hbx.mono HBW.out.size)
    have HBW2 := Lib.hid hbw
    have l0 := heap_lt p0
    have l1 := heap_lt r0
    clear hb3 hbx p0 r0 hbw HBW HQ0 HS HQ
    generalize w3.alloc (.cells #[.slice none 0 0, .slice none 0 0, .slice none 0 0] 26) = S2 at *
    generalize w3.heap.size = B2 at *
    go_wp2_with (first
      | (go_at_call 24; refine (HSG.out _).mono ?_; rintro e w4 ⟨rfl, hb4⟩)
      | (go_at_call 20; refine (HWK.out _).mono ?_; rintro e w5 ⟨rfl, hb5⟩))
    go_ret
    have q1 := HBW2.out.trans (hb4.mono HBW2.out.size)
    exact ⟨rfl, q1.trans (hb5.mono q1.size)⟩

end Go.Proofs.Ytmilldclgheiaaa
