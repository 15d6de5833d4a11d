/- lang: Has and Begins, of any grammar that may be. -/
import Derived.Test.YtejjdfmobiegdaaDoorTrkE
import Derived.Test.YtejjdfmobiegdaaDoorTrkH
set_option linter.unusedVariables false
namespace Go.Proofs.YtejjdfmobiegdaaDoor
open Go.RowKit
open Doc

theorem lhas_is (v : Value) (g : Gr) (pa : Option Addr) (pc : Nat) (u : List Int) (w : World) (hg : GramAt w v g) (hck : CheckG g) (hu : Cells w pa (nums u)) (hul : u.length ≤ 12) (hus : ∀ s ∈ u, 1 ≤ s ∧ s ≤ (g.terms.length : Int)) (hT : Tab32 w) :
    Calls Tryd.prog 18 #[v, .slice pa u.length pc] w fun e w' => Below w.heap.size w w' ∧ ∃ b : Bool, e = .returned (.bool b) ∧ (b = true ↔ Wd.Der g.prods [100] u) := by
  have h8 := hck.t8
  have hu9 : ∀ s ∈ u, 1 ≤ s ∧ s < 9 := fun s hs => by have := hus s hs; omega
  refine (lhas_any v g pa pc u w hg hck hu hul hus hT).mono fun e w' ⟨hb, hE⟩ => ⟨hb, ?_⟩
  obtain ⟨F, l, er, ls, a, c, E, hF, hTO, hp, hS, _, hEl, he⟩ := hE
  rw [if_neg (by decide)] at hS
  refine ⟨_, he, fun h => ?_, fun h => ?_⟩
  · obtain ⟨z, h1, h2⟩ := track_sound hck hp hu9 hul (by omega) hS h
    have := wlk_only (X := wordT a c (pickL ls l) g.terms.length (stT u u.length) u.length 0) hu9 rfl rfl (Nat.zero_le _) h2
    rw [this] at h1
    simpa using h1
  · exact track_tells hck hF hTO hp hu9 hul (by omega) hS hEl h (wlk_own hu9 rfl u 0 (by simp) (Nat.zero_le _))
theorem lbegins_is (v : Value) (g : Gr) (pa : Option Addr) (pc : Nat) (u : List Int) (w : World) (hg : GramAt w v g) (hck : CheckG g) (hu : Cells w pa (nums u)) (hul : u.length ≤ 12) (hus : ∀ s ∈ u, 1 ≤ s ∧ s ≤ (g.terms.length : Int)) (hT : Tab32 w) :
    Calls Tryd.prog 19 #[v, .slice pa u.length pc] w fun e w' => Below w.heap.size w w' ∧ ∃ b : Bool, e = .returned (.bool b) ∧ (b = true ↔ ∃ z, Wd.Der g.prods [100] (u ++ z)) := by
  have h8 := hck.t8
  have hu9 : ∀ s ∈ u, 1 ≤ s ∧ s < 9 := fun s hs => by have := hus s hs; omega
  have hy : 2 ^ u.length < 8192 := (show 2 ^ u.length < 2 ^ 13 from Nat.pow_lt_pow_right (by omega) (by omega))
  refine (lbegins_any v g pa pc u w hg hck hu hul hus hT).mono fun e w' ⟨hb, hE⟩ => ⟨hb, ?_⟩
  obtain ⟨F, l, er, ls, a, c, E, hF, hTO, hp, hS, _, hEl, he⟩ := hE
  rw [if_pos (by rfl)] at hS
  refine ⟨_, he, fun h => ?_, fun ⟨z, h⟩ => ?_⟩
  · obtain ⟨x, h1, h2⟩ := track_sound hck hp hu9 hul hy hS h
    obtain ⟨z, hz⟩ := wlk_begins (X := wordT a c (pickL ls l) g.terms.length (stT u u.length) u.length (2 ^ u.length)) hu9 rfl rfl (Nat.zero_le _) h2
    rw [hz] at h1
    exact ⟨z, by simpa using h1⟩
  · exact track_tells hck hF hTO hp hu9 hul hy hS hEl h ((wlk_own hu9 rfl u 0 (by simp) (Nat.zero_le _)).app (wlk_stay rfl z))
end Go.Proofs.YtejjdfmobiegdaaDoor
