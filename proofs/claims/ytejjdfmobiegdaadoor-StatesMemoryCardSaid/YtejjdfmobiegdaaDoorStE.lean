/- StatesErrors, and the example that chapter 12's laws end with: walked. -/
import Derived.Test.YtejjdfmobiegdaaDoorStX
import Derived.Test.YtejjdfmobiegdaaDoorStK
import Derived.Test.YtejjdfmobiegdaaDoorNoGs
import Derived.Test.YtejjdfmobiegdaaDoorGParse
set_option linter.unusedVariables false
namespace Go.Proofs.YtejjdfmobiegdaaDoor
open Go.RowKit
open Doc

def wS : List StP := [⟨[(-1, 0, 0), (0, 0, 0)], 0, [(100, 2), (1, 1)]⟩, ⟨[(0, 1, 0)], 1, []⟩, ⟨[(-1, 1, 0)], 100, []⟩]
theorem wg11_mach : machS (kC wg11) wg11 9 = some wS := by decide +kernel
theorem wg11_fix : fixB wg11 = true := by decide +kernel
theorem wS_go1 : goI wS 0 1 = 1 := by decide
theorem wS_go2 : goI wS 0 100 = 2 := by decide
/-- A good text's grammar. -/
theorem good_wg (w : World) : Calls Tryd.prog 33 #[.int .i64 0] w fun e w' => Below w.heap.size w w' ∧ ∃ v, e = Ending.returned v ∧ GramAt w' v wg11 :=
  (good_any 0 w).mono fun e w' ⟨hb, ts, ns, ls, at_, an, ap, ct, cn, cp, he, hr, hp⟩ => (by
    rw [wg11_parse] at hp
    have hg : wg11 = ⟨ts, ns, ls.map Lay.plain⟩ := End.ok.inj hp
    exact ⟨hb, _, he, by rw [hg]; exact hr.gram⟩)
set_option maxRecDepth 100000 in
set_option maxHeartbeats 4000000 in
theorem wakes12_any (w : World) (HT : Sl.Tab w) : Calls Tryd.prog 32 #[] w fun e w' => e = .returned (.bool true) ∧ Below w.heap.size w w' := by
  have HTT := Lib.hid HT
  have HGO := Lib.hid (good_wg w)
  have HNW := Lib.hid fun v W (h : GramAt W v wg11) (hT : Sl.Tab W) => (snew_any v wg11 9 W h wg11_check hT).mono fun e w' ⟨hb, he⟩ => (by
    rcases he with ⟨hn, _⟩ | ⟨_, hn, _⟩ | ⟨_, _, K, hK, ⟨h1, _⟩ | ⟨B, G, sa, sc, ss, h1, h2, h3⟩⟩
    · exact absurd wg11_fru hn
    · exact absurd (by omega) hn
    · rw [hK.uniq (kC_is wg11_check wg11_fix), show (9 : Int).toNat = 9 from rfl, wg11_mach] at h1
      cases h1
    · rw [hK.uniq (kC_is wg11_check wg11_fix), show (9 : Int).toNat = 9 from rfl, wg11_mach] at h1
      exact ⟨hb, B, G, sa, sc, ss, (Option.some.inj h1).symm, h2, h3⟩ : Below W.heap.size W w' ∧ ∃ (B : Nat) (G : GrL) (sa : Option Addr) (sc : Nat) (ss : List StL), plS ss = wS ∧ e = Ending.returned (.tuple #[.pointer (some ⟨B, 0, none⟩), .int .i64 0]) ∧ MacAt w' B W.heap.size wg11 G sa sc ss)
  clear HT
  go_enter Tryd.func32, Tryd.ntmps32
  go_upto_region 2 with (first
    | (go_at_call 33; refine HGO.out.mono ?_; rintro e w2 ⟨hb2, v, rfl, hg2⟩)
    | (go_at_call 26; refine (HNW.out _ _ hg2 (HTT.out.below hb2)).mono ?_; rintro e w3 ⟨hb3, B, G, sa, sc, ss, hps, rfl, hm⟩))
  have HB3 := Lib.hid (hb2.trans (hb3.mono hb2.size))
  have hsl : ss.length = 3 := by have : (plS ss).length = 3 := by rw [hps]; rfl
                                 simpa [plS] using this
  have HL := Lib.hid (show Calls Tryd.prog 27 #[.pointer (some ⟨B, 0, none⟩)] w3 (fun e w' => e = .returned (.int .i64 3) ∧ w' = w3) from
    (mlen_any B _ wg11 G sa sc ss w3 hm).mono fun e w' ⟨he, hw⟩ => ⟨by rw [he, hsl]; rfl, hw⟩)
  have HG1 := Lib.hid (mgo_any B _ wg11 G sa sc ss 0 1 (by omega) (by omega) w3 hm)
  have HG2 := Lib.hid (mgo_any B _ wg11 G sa sc ss 0 100 (by omega) (by omega) w3 hm)
  rw [hps, wS_go1] at HG1
  rw [hps, wS_go2] at HG2
  clear hb2 hb3 hg2 hm HGO HNW hps hsl
  go_wp2_with (first
    | (go_at_call 27; (with_reducible refine HL.out.mono ?_); rintro e w4 ⟨rfl, hw4⟩; rw [hw4]; clear hw4)
    | (go_at_call 28; (with_reducible refine HG1.out.mono ?_); rintro e w5 ⟨rfl, hw5⟩; rw [hw5]; clear hw5)
    | (go_at_call 28; (with_reducible refine HG2.out.mono ?_); rintro e w6 ⟨rfl, hw6⟩; rw [hw6]; clear hw6))
  go_ret
  exact ⟨rfl, HB3.out⟩
set_option maxHeartbeats 1000000 in
theorem inew_no (v : Value) (g : Gr) (w : World) (hg : GramAt w v g) (hm : MidG g) (hc : ¬ CheckG g) :
    Calls Tryd.prog 36 #[v] w fun e w' => e = .returned (.tuple #[.pointer none, .int .i64 1]) ∧ Below w.heap.size w w' := by
  have hg0 := hg
  obtain ⟨a1, a2, a3, c1, c2, c3, ls, rfl, _⟩ := hg
  have hS : Below w.heap.size w (w.alloc (.cells #[.slice a1 g.terms.length c1, .slice a2 g.nons.length c2, .slice a3 ls.length c3] 29)) := (Below.refl _ _).alloc (Nat.le_refl _) _
  have HCA := Lib.hid (trim_no _ g _ (hg0.below hS) hm hc)
  have HS := Lib.hid hS
  have q0 := heap_alloc_new w (.cells #[.slice a1 g.terms.length c1, .slice a2 g.nons.length c2, .slice a3 ls.length c3] 29)
  have l0 := heap_lt q0
  have y0 := (blk_cell (i := 0) (u := .slice a1 g.terms.length c1) q0 rfl).1
  have y1 := (blk_cell (i := 1) (u := .slice a2 g.nons.length c2) q0 rfl).1
  have y2 := (blk_cell (i := 2) (u := .slice a3 ls.length c3) q0 rfl).1
  clear hg0 hS q0 hm hc
  go_enter Tryd.func36, Tryd.ntmps36
  go_wp2_with (go_at_call 71; (with_reducible refine HCA.out.mono ?_); rintro e w2 ⟨rfl, hb2⟩)
  go_ret2
  exact ⟨rfl, HS.out.trans (hb2.mono HS.out.size)⟩
set_option maxHeartbeats 1000000 in
theorem snew_no (v : Value) (g : Gr) (b : Int) (w : World) (hg : GramAt w v g) (hm : MidG g) (hc : ¬ CheckG g) :
    Calls Tryd.prog 26 #[v, .int .i64 b] w fun e w' => e = .returned (.tuple #[.pointer none, .int .i64 1]) ∧ Below w.heap.size w w' := by
  have hg0 := hg
  obtain ⟨a1, a2, a3, c1, c2, c3, ls, rfl, _⟩ := hg
  have hS : Below w.heap.size w (w.alloc (.cells #[.slice a1 g.terms.length c1, .slice a2 g.nons.length c2, .slice a3 ls.length c3] 29)) := (Below.refl _ _).alloc (Nat.le_refl _) _
  have HCA := Lib.hid (inew_no _ g _ (hg0.below hS) hm hc)
  have HS := Lib.hid hS
  have q0 := heap_alloc_new w (.cells #[.slice a1 g.terms.length c1, .slice a2 g.nons.length c2, .slice a3 ls.length c3] 29)
  have l0 := heap_lt q0
  have y0 := (blk_cell (i := 0) (u := .slice a1 g.terms.length c1) q0 rfl).1
  have y1 := (blk_cell (i := 1) (u := .slice a2 g.nons.length c2) q0 rfl).1
  have y2 := (blk_cell (i := 2) (u := .slice a3 ls.length c3) q0 rfl).1
  clear hg0 hS q0 hm hc
  go_enter Tryd.func26, Tryd.ntmps26
  go_wp2_with (go_at_call 36; (with_reducible refine HCA.out.mono ?_); rintro e w2 ⟨rfl, hb2⟩)
  go_ret2
  exact ⟨rfl, HS.out.trans (hb2.mono HS.out.size)⟩
end Go.Proofs.YtejjdfmobiegdaaDoor
