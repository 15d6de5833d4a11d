/- lang: asked, Has and Begins of whatever row of numbers, over a grammar that may be. -/
import Derived.Test.YtfchfnhjpndpgaaDoorLFormF
set_option linter.unusedVariables false
namespace Go.Proofs.YtfchfnhjpndpgaaDoor
open Go.RowKit
open Doc

theorem asked_no (v : Value) (g : Gr) (pa : Option Addr) (pc : Nat) (u : List Int) (w : World) (hg : GramAt w v g) (hck : CheckG g) (hu : Cells w pa (nums u)) (hul : u.length ≤ 1000000) (hno : okW g.terms.length u = false) :
    Calls Tryd.prog 47 #[v, .slice pa u.length pc] w fun e w' => e = .returned (.bool false) ∧ Below w.heap.size w w' := by
  have hg0 := hg
  obtain ⟨a1, a2, a3, c1, c2, c3, ls, rfl, hp, k1, k2, k3, k4, k5, k6, k7⟩ := hg
  have hS : Below w.heap.size w (w.alloc (.cells #[.slice a1 g.terms.length c1, .slice a2 g.nons.length c2, .slice a3 ls.length c3] 25)) := (Below.refl _ _).alloc (Nat.le_refl _) _
  have hQ := heap_alloc_new w (.cells #[.slice a1 g.terms.length c1, .slice a2 g.nons.length c2, .slice a3 ls.length c3] 25)
  have x0 := (blk_cell (i := 0) (u := .slice a1 g.terms.length c1) hQ rfl).1
  have x1 := (blk_cell (i := 1) (u := .slice a2 g.nons.length c2) hQ rfl).1
  have x2 := (blk_cell (i := 2) (u := .slice a3 ls.length c3) hQ rfl).1
  have hl0 := heap_lt hQ
  have HCK := Lib.hid (check_calls _ g _ (hg0.below hS) hck)
  by_cases h12 : u.length ≤ 12
  · have hle : decide ((u.length : Int) ≤ 12) = true := by simp; omega
    have hany : u.any (fun s => decide (s < 1 ∨ (g.terms.length : Int) < s)) = true := by
      unfold okW at hno
      rw [decide_eq_true h12, Bool.true_and] at hno
      cases h : u.any (fun s => decide (s < 1 ∨ (g.terms.length : Int) < s)) with
      | true => rfl
      | false =>
        rw [List.any_eq_false] at h
        have : (u.all fun s => !decide (s < 1 ∨ (g.terms.length : Int) < s)) = true := by
          rw [List.all_eq_true]
          intro s hs
          have := h s hs
          simpa using this
        rw [this] at hno
        cases hno
    have HCO := Lib.hid fun (W : World) (hW : Below (w.alloc (.cells #[.slice a1 g.terms.length c1, .slice a2 g.nons.length c2, .slice a3 ls.length c3] 25)).heap.size (w.alloc (.cells #[.slice a1 g.terms.length c1, .slice a2 g.nons.length c2, .slice a3 ls.length c3] 25)) W) => (containsA_any (.pointer (some ⟨w.heap.size, 0, none⟩)) (fun s => decide (s < 1 ∨ (g.terms.length : Int) < s)) pa pc u W ((hu.below hS).below hW) (by omega) (fun q hq W' hW' => asked1_any q w.heap.size (.int .i64 0) (.slice a2 g.nons.length c2) (.slice a3 ls.length c3) a1 g.terms.length c1 W' ((hW'.block _ (heap_lt ((hW.block _ hl0).trans hQ))).trans ((hW.block _ hl0).trans hQ)))).mono fun e w' ⟨he, hb⟩ => (⟨he.trans (by rw [hany]), hb⟩ : e = Ending.returned (.bool true) ∧ Below W.heap.size W w')
    have HS := Lib.hid hS
    clear hg0 hp k1 k2 k3 k4 k5 k6 k7 hu hul hQ hck hS hno hany h12
    go_enter Tryd.func47, Tryd.ntmps47
    go_wp2_with (first
      | (go_at_call 43; refine HCK.out.mono ?_; rintro e w2 ⟨rfl, hb2⟩)
      | (go_at_call 85; refine (HCO.out _ hb2).mono ?_; rintro e w3 ⟨rfl, hb3⟩))
    go_ret
    exact ⟨rfl, HS.out.trans ((hb2.trans (hb3.mono hb2.size)).mono HS.out.size)⟩
  · have hle : decide ((u.length : Int) ≤ 12) = false := by simp; omega
    have HS := Lib.hid hS
    clear hg0 hp k1 k2 k3 k4 k5 k6 k7 hu hul hQ hck hS hno h12 HCK
    go_enter Tryd.func47, Tryd.ntmps47
    go_wp2
    go_ret
    exact ⟨rfl, HS.out⟩
set_option maxRecDepth 100000 in
set_option maxHeartbeats 4000000 in
theorem lhas_no (v : Value) (g : Gr) (pa : Option Addr) (pc : Nat) (u : List Int) (w : World) (hg : GramAt w v g) (hck : CheckG g) (hu : Cells w pa (nums u)) (hul : u.length ≤ 1000000) (hno : okW g.terms.length u = false) :
    Calls Tryd.prog 16 #[v, .slice pa u.length pc] w fun e w' => e = .returned (.bool false) ∧ Below w.heap.size w w' := by
  have hg0 := hg
  obtain ⟨a1, a2, a3, c1, c2, c3, ls, rfl, hp, k1, k2, k3, k4, k5, k6, k7⟩ := hg
  have hS : Below w.heap.size w (w.alloc (.cells #[.slice a1 g.terms.length c1, .slice a2 g.nons.length c2, .slice a3 ls.length c3] 25)) := (Below.refl _ _).alloc (Nat.le_refl _) _
  have hQ := heap_alloc_new w (.cells #[.slice a1 g.terms.length c1, .slice a2 g.nons.length c2, .slice a3 ls.length c3] 25)
  have x0 := (blk_cell (i := 0) (u := .slice a1 g.terms.length c1) hQ rfl).1
  have x1 := (blk_cell (i := 1) (u := .slice a2 g.nons.length c2) hQ rfl).1
  have x2 := (blk_cell (i := 2) (u := .slice a3 ls.length c3) hQ rfl).1
  have hl0 := heap_lt hQ
  have HS := Lib.hid hS
  have HA := Lib.hid fun (W : World) (hW : Below (w.alloc (.cells #[.slice a1 g.terms.length c1, .slice a2 g.nons.length c2, .slice a3 ls.length c3] 25)).heap.size (w.alloc (.cells #[.slice a1 g.terms.length c1, .slice a2 g.nons.length c2, .slice a3 ls.length c3] 25)) W) => asked_no _ g pa pc u W ((hg0.below hS).below hW) hck ((hu.below hS).below hW) hul hno
  clear hg0 hp k1 k2 k3 k4 k5 k6 k7 hu hul hQ hck hS hno
  go_enter Tryd.func16, Tryd.ntmps16
  go_upto_region 1 with fail
  generalize w.alloc (.cells #[.slice a1 g.terms.length c1, .slice a2 g.nons.length c2, .slice a3 ls.length c3] 25) = S at *
  (first | (go_region_with (go_at_call 47; refine (HA.out _ (below_drews (Below.refl _ _) 1)).mono ?_; rintro e w2 ⟨rfl, hb2⟩)) | fail)
  all_goals
    go_wp2
    go_ret
    exact ⟨rfl, HS.out.trans (((Below.refl S.heap.size S).drew.trans hb2).mono HS.out.size)⟩
set_option maxRecDepth 100000 in
set_option maxHeartbeats 4000000 in
theorem lbegins_no (v : Value) (g : Gr) (pa : Option Addr) (pc : Nat) (u : List Int) (w : World) (hg : GramAt w v g) (hck : CheckG g) (hu : Cells w pa (nums u)) (hul : u.length ≤ 1000000) (hno : okW g.terms.length u = false) :
    Calls Tryd.prog 17 #[v, .slice pa u.length pc] w fun e w' => e = .returned (.bool false) ∧ Below w.heap.size w w' := by
  have hg0 := hg
  obtain ⟨a1, a2, a3, c1, c2, c3, ls, rfl, hp, k1, k2, k3, k4, k5, k6, k7⟩ := hg
  have hS : Below w.heap.size w (w.alloc (.cells #[.slice a1 g.terms.length c1, .slice a2 g.nons.length c2, .slice a3 ls.length c3] 25)) := (Below.refl _ _).alloc (Nat.le_refl _) _
  have hQ := heap_alloc_new w (.cells #[.slice a1 g.terms.length c1, .slice a2 g.nons.length c2, .slice a3 ls.length c3] 25)
  have x0 := (blk_cell (i := 0) (u := .slice a1 g.terms.length c1) hQ rfl).1
  have x1 := (blk_cell (i := 1) (u := .slice a2 g.nons.length c2) hQ rfl).1
  have x2 := (blk_cell (i := 2) (u := .slice a3 ls.length c3) hQ rfl).1
  have hl0 := heap_lt hQ
  have HS := Lib.hid hS
  have HA := Lib.hid fun (W : World) (hW : Below (w.alloc (.cells #[.slice a1 g.terms.length c1, .slice a2 g.nons.length c2, .slice a3 ls.length c3] 25)).heap.size (w.alloc (.cells #[.slice a1 g.terms.length c1, .slice a2 g.nons.length c2, .slice a3 ls.length c3] 25)) W) => asked_no _ g pa pc u W ((hg0.below hS).below hW) hck ((hu.below hS).below hW) hul hno
  clear hg0 hp k1 k2 k3 k4 k5 k6 k7 hu hul hQ hck hS hno
  go_enter Tryd.func17, Tryd.ntmps17
  go_upto_region 1 with fail
  generalize w.alloc (.cells #[.slice a1 g.terms.length c1, .slice a2 g.nons.length c2, .slice a3 ls.length c3] 25) = S at *
  (first | (go_region_with (go_at_call 47; refine (HA.out _ (below_drews (Below.refl _ _) 1)).mono ?_; rintro e w2 ⟨rfl, hb2⟩)) | fail)
  all_goals
    go_wp2
    go_ret
    exact ⟨rfl, HS.out.trans (((Below.refl S.heap.size S).drew.trans hb2).mono HS.out.size)⟩
/-- Has, of whatever row. -/
theorem lhas_all (v : Value) (g : Gr) (pa : Option Addr) (pc : Nat) (u : List Int) (w : World) (hg : GramAt w v g) (hck : CheckG g) (hu : Cells w pa (nums u)) (hul : u.length ≤ 1000000) (hT : Tab32 w) :
    Calls Tryd.prog 16 #[v, .slice pa u.length pc] w fun e w' => e = .returned (.bool (okW g.terms.length u && hasD g u)) ∧ Below w.heap.size w w' := by
  cases h : okW g.terms.length u with
  | true => exact lhas_d v g pa pc u w hg hck hu (okW_iff.1 h).1 (okW_iff.1 h).2 hT
  | false => exact lhas_no v g pa pc u w hg hck hu hul h
theorem lbegins_all (v : Value) (g : Gr) (pa : Option Addr) (pc : Nat) (u : List Int) (w : World) (hg : GramAt w v g) (hck : CheckG g) (hu : Cells w pa (nums u)) (hul : u.length ≤ 1000000) (hT : Tab32 w) :
    Calls Tryd.prog 17 #[v, .slice pa u.length pc] w fun e w' => e = .returned (.bool (okW g.terms.length u && begD g u)) ∧ Below w.heap.size w w' := by
  cases h : okW g.terms.length u with
  | true => exact lbegins_d v g pa pc u w hg hck hu (okW_iff.1 h).1 (okW_iff.1 h).2 hT
  | false => exact lbegins_no v g pa pc u w hg hck hu hul h
end Go.Proofs.YtfchfnhjpndpgaaDoor
