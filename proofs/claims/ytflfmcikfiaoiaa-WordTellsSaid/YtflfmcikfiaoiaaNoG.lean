/- What is given for a grammar that may not be. -/
import Derived.Test.YtflfmcikfiaoiaaPlayF
import Derived.Test.YtflfmcikfiaoiaaWordL
import Derived.Test.YtflfmcikfiaoiaaFirstN
set_option linter.unusedVariables false
namespace Go.Proofs.Ytflfmcikfiaoiaa
open Go.RowKit
open Doc

theorem check_mid (v : Value) (g : Gr) (w : World) (hg : GramAt w v g) (hm : MidG g) :
    Calls Try.prog 53 #[v] w fun e w' => e = .returned (.int .i64 (chkI g)) ∧ Below w.heap.size w w' :=
  chk_any v g w hg ⟨by have := hm.t.1; omega, by have := hm.n.1; omega, by have := hm.p.1; omega, fun p hp => by have := (hm.p.2 p hp).2.1; omega⟩ (fun p hp => ⟨(hm.p.2 p hp).1, (hm.p.2 p hp).2.2⟩) (fun x hx => by have := hm.t.2 x hx; unfold maxLen; omega) (fun x hx => by have := hm.n.2 x hx; unfold maxLen; omega)
theorem check_not (v : Value) (g : Gr) (w : World) (hg : GramAt w v g) (hm : MidG g) (hc : ¬ CheckG g) :
    Calls Try.prog 53 #[v] w fun e w' => e = .returned (.int .i64 1) ∧ Below w.heap.size w w' :=
  (check_mid v g w hg hm).mono fun e w' ⟨he, hb⟩ => ⟨he.trans (by rw [show chkI g = 1 from if_neg fun h => hc ((chk_iff g).1 h)]), hb⟩

set_option maxHeartbeats 1000000 in
theorem nullable_no (v : Value) (g : Gr) (w : World) (hg : GramAt w v g) (hm : MidG g) (hc : ¬ CheckG g) :
    Calls Try.prog 11 #[v] w fun e w' => e = .returned (.int .u64 0) ∧ Below w.heap.size w w' := by
  have hg0 := hg
  obtain ⟨a1, a2, a3, c1, c2, c3, ls, rfl, _⟩ := hg
  have hS : Below w.heap.size w (w.alloc (.cells #[.slice a1 g.terms.length c1, .slice a2 g.nons.length c2, .slice a3 ls.length c3] 28)) := (Below.refl _ _).alloc (Nat.le_refl _) _
  have HCA := Lib.hid (check_not _ g _ (hg0.below hS) hm hc)
  have HS := Lib.hid hS
  have q0 := heap_alloc_new w (.cells #[.slice a1 g.terms.length c1, .slice a2 g.nons.length c2, .slice a3 ls.length c3] 28)
  have l0 := heap_lt q0
  have y0 := (blk_cell (i := 0) (u := .slice a1 g.terms.length c1) q0 rfl).1
  have y1 := (blk_cell (i := 1) (u := .slice a2 g.nons.length c2) q0 rfl).1
  have y2 := (blk_cell (i := 2) (u := .slice a3 ls.length c3) q0 rfl).1
  clear hg0 hS q0 hm hc
  go_enter Try.func11, Try.ntmps11
  go_wp2_with (go_at_call 53; refine HCA.out.mono ?_; rintro e w2 ⟨rfl, hb2⟩)
  go_ret
  exact ⟨rfl, HS.out.trans (hb2.mono HS.out.size)⟩

set_option maxHeartbeats 1000000 in
theorem fruitful_no (v : Value) (g : Gr) (w : World) (hg : GramAt w v g) (hm : MidG g) (hc : ¬ CheckG g) :
    Calls Try.prog 12 #[v] w fun e w' => e = .returned (.int .u64 0) ∧ Below w.heap.size w w' := by
  have hg0 := hg
  obtain ⟨a1, a2, a3, c1, c2, c3, ls, rfl, _⟩ := hg
  have hS : Below w.heap.size w (w.alloc (.cells #[.slice a1 g.terms.length c1, .slice a2 g.nons.length c2, .slice a3 ls.length c3] 28)) := (Below.refl _ _).alloc (Nat.le_refl _) _
  have HCA := Lib.hid (check_not _ g _ (hg0.below hS) hm hc)
  have HS := Lib.hid hS
  have q0 := heap_alloc_new w (.cells #[.slice a1 g.terms.length c1, .slice a2 g.nons.length c2, .slice a3 ls.length c3] 28)
  have l0 := heap_lt q0
  have y0 := (blk_cell (i := 0) (u := .slice a1 g.terms.length c1) q0 rfl).1
  have y1 := (blk_cell (i := 1) (u := .slice a2 g.nons.length c2) q0 rfl).1
  have y2 := (blk_cell (i := 2) (u := .slice a3 ls.length c3) q0 rfl).1
  clear hg0 hS q0 hm hc
  go_enter Try.func12, Try.ntmps12
  go_wp2_with (go_at_call 53; refine HCA.out.mono ?_; rintro e w2 ⟨rfl, hb2⟩)
  go_ret
  exact ⟨rfl, HS.out.trans (hb2.mono HS.out.size)⟩

set_option maxHeartbeats 1000000 in
theorem trim_no (v : Value) (g : Gr) (w : World) (hg : GramAt w v g) (hm : MidG g) (hc : ¬ CheckG g) :
    Calls Try.prog 63 #[v] w fun e w' => e = .returned (.tuple #[.slice none 0 0, .int .i64 1]) ∧ Below w.heap.size w w' := by
  have hg0 := hg
  obtain ⟨a1, a2, a3, c1, c2, c3, ls, rfl, _⟩ := hg
  have hS : Below w.heap.size w (w.alloc (.cells #[.slice a1 g.terms.length c1, .slice a2 g.nons.length c2, .slice a3 ls.length c3] 28)) := (Below.refl _ _).alloc (Nat.le_refl _) _
  have HCA := Lib.hid (check_not _ g _ (hg0.below hS) hm hc)
  have HS := Lib.hid hS
  have q0 := heap_alloc_new w (.cells #[.slice a1 g.terms.length c1, .slice a2 g.nons.length c2, .slice a3 ls.length c3] 28)
  have l0 := heap_lt q0
  have y0 := (blk_cell (i := 0) (u := .slice a1 g.terms.length c1) q0 rfl).1
  have y1 := (blk_cell (i := 1) (u := .slice a2 g.nons.length c2) q0 rfl).1
  have y2 := (blk_cell (i := 2) (u := .slice a3 ls.length c3) q0 rfl).1
  clear hg0 hS q0 hm hc
  go_enter Try.func63, Try.ntmps63
  go_wp2_with (go_at_call 53; refine HCA.out.mono ?_; rintro e w2 ⟨rfl, hb2⟩)
  go_ret2
  exact ⟨rfl, HS.out.trans (hb2.mono HS.out.size)⟩

set_option maxHeartbeats 1000000 in
theorem wleast_no (v : Value) (g : Gr) (w : World) (hg : GramAt w v g) (hm : MidG g) (hc : ¬ CheckG g) :
    Calls Try.prog 33 #[v] w fun e w' => e = .returned (.tuple #[.slice none 0 0, .int .i64 1]) ∧ Below w.heap.size w w' := by
  have hg0 := hg
  obtain ⟨a1, a2, a3, c1, c2, c3, ls, rfl, _⟩ := hg
  have hS : Below w.heap.size w (w.alloc (.cells #[.slice a1 g.terms.length c1, .slice a2 g.nons.length c2, .slice a3 ls.length c3] 28)) := (Below.refl _ _).alloc (Nat.le_refl _) _
  have HCA := Lib.hid (check_not _ g _ (hg0.below hS) hm hc)
  have HS := Lib.hid hS
  have q0 := heap_alloc_new w (.cells #[.slice a1 g.terms.length c1, .slice a2 g.nons.length c2, .slice a3 ls.length c3] 28)
  have l0 := heap_lt q0
  have y0 := (blk_cell (i := 0) (u := .slice a1 g.terms.length c1) q0 rfl).1
  have y1 := (blk_cell (i := 1) (u := .slice a2 g.nons.length c2) q0 rfl).1
  have y2 := (blk_cell (i := 2) (u := .slice a3 ls.length c3) q0 rfl).1
  clear hg0 hS q0 hm hc
  go_enter Try.func33, Try.ntmps33
  go_wp2_with (go_at_call 53; refine HCA.out.mono ?_; rintro e w2 ⟨rfl, hb2⟩)
  go_ret2
  exact ⟨rfl, HS.out.trans (hb2.mono HS.out.size)⟩

set_option maxHeartbeats 1000000 in
theorem wcosts_no (v : Value) (g : Gr) (w : World) (hg : GramAt w v g) (hm : MidG g) (hc : ¬ CheckG g) :
    Calls Try.prog 34 #[v] w fun e w' => e = .returned (.tuple #[.slice none 0 0, .int .i64 1]) ∧ Below w.heap.size w w' := by
  have hg0 := hg
  obtain ⟨a1, a2, a3, c1, c2, c3, ls, rfl, _⟩ := hg
  have hS : Below w.heap.size w (w.alloc (.cells #[.slice a1 g.terms.length c1, .slice a2 g.nons.length c2, .slice a3 ls.length c3] 28)) := (Below.refl _ _).alloc (Nat.le_refl _) _
  have HCA := Lib.hid (check_not _ g _ (hg0.below hS) hm hc)
  have HS := Lib.hid hS
  have q0 := heap_alloc_new w (.cells #[.slice a1 g.terms.length c1, .slice a2 g.nons.length c2, .slice a3 ls.length c3] 28)
  have l0 := heap_lt q0
  have y0 := (blk_cell (i := 0) (u := .slice a1 g.terms.length c1) q0 rfl).1
  have y1 := (blk_cell (i := 1) (u := .slice a2 g.nons.length c2) q0 rfl).1
  have y2 := (blk_cell (i := 2) (u := .slice a3 ls.length c3) q0 rfl).1
  clear hg0 hS q0 hm hc
  go_enter Try.func34, Try.ntmps34
  go_wp2_with (go_at_call 53; refine HCA.out.mono ?_; rintro e w2 ⟨rfl, hb2⟩)
  go_ret2
  exact ⟨rfl, HS.out.trans (hb2.mono HS.out.size)⟩

set_option maxHeartbeats 1000000 in
theorem fnew_no (v : Value) (g : Gr) (w : World) (hg : GramAt w v g) (hm : MidG g) (hc : ¬ CheckG g) :
    Calls Try.prog 19 #[v] w fun e w' => e = .returned (.tuple #[.pointer none, .int .i64 1]) ∧ Below w.heap.size w w' := by
  have hg0 := hg
  obtain ⟨a1, a2, a3, c1, c2, c3, ls, rfl, _⟩ := hg
  have hS : Below w.heap.size w (w.alloc (.cells #[.slice a1 g.terms.length c1, .slice a2 g.nons.length c2, .slice a3 ls.length c3] 28)) := (Below.refl _ _).alloc (Nat.le_refl _) _
  have HCA := Lib.hid (trim_no _ g _ (hg0.below hS) hm hc)
  have HS := Lib.hid hS
  have q0 := heap_alloc_new w (.cells #[.slice a1 g.terms.length c1, .slice a2 g.nons.length c2, .slice a3 ls.length c3] 28)
  have l0 := heap_lt q0
  have y0 := (blk_cell (i := 0) (u := .slice a1 g.terms.length c1) q0 rfl).1
  have y1 := (blk_cell (i := 1) (u := .slice a2 g.nons.length c2) q0 rfl).1
  have y2 := (blk_cell (i := 2) (u := .slice a3 ls.length c3) q0 rfl).1
  clear hg0 hS q0 hm hc
  go_enter Try.func19, Try.ntmps19
  go_wp2_with (go_at_call 63; refine HCA.out.mono ?_; rintro e w2 ⟨rfl, hb2⟩)
  go_ret2
  exact ⟨rfl, HS.out.trans (hb2.mono HS.out.size)⟩

end Go.Proofs.Ytflfmcikfiaoiaa
