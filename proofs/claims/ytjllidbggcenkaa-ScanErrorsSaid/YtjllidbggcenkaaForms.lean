/- ScanForms: the walk. -/
import Derived.Test.YtjllidbggcenkaaSay
namespace Go.Proofs.Ytjllidbggcenkaa
open Go.RowKit
open Doc

def formsL : List Tok := [⟨1, [83, 49], 1, 1⟩, ⟨3, [58], 1, 3⟩, ⟨2, [97], 1, 5⟩, ⟨4, [124], 1, 6⟩, ⟨2, [98, 66], 1, 7⟩, ⟨5, [], 1, 15⟩, ⟨3, [58], 2, 3⟩, ⟨5, [], 2, 4⟩]
theorem forms0 : txt [83, 49, 58, 32, 97, 124, 98, 66, 32, 35, 32, 124, 32, 99, 10, 32, 32, 58] 1 = (formsL, 0, 0) := by decide +kernel
theorem forms1 : txt [83, 49, 58, 32, 97, 124, 98, 66, 32, 35, 32, 124, 32, 99, 10, 32, 32, 58, 10] 1 = (formsL, 0, 0) := by decide +kernel

theorem forms_cells : (#[.int .i64 1, .string ⟨#[83, 49]⟩, .int .i64 1, .int .i64 1, .int .i64 3, .string ⟨#[58]⟩, .int .i64 1, .int .i64 3, .int .i64 2, .string ⟨#[97]⟩, .int .i64 1, .int .i64 5, .int .i64 4, .string ⟨#[124]⟩, .int .i64 1, .int .i64 6, .int .i64 2, .string ⟨#[98, 66]⟩, .int .i64 1, .int .i64 7, .int .i64 5, .string ⟨#[]⟩, .int .i64 1, .int .i64 15, .int .i64 3, .string ⟨#[58]⟩, .int .i64 2, .int .i64 3, .int .i64 5, .string ⟨#[]⟩, .int .i64 2, .int .i64 4] : Array Value) = (tall formsL).toArray := rfl

theorem cat (a b : Array UInt8) : (⟨a⟩ : ByteArray) ++ ⟨b⟩ = ⟨a ++ b⟩ := ByteArray.ext (by simp)
theorem forms_cat : (⟨#[83, 49, 58, 32, 97, 124, 98, 66, 32, 35, 32, 124, 32, 99, 10, 32, 32, 58]⟩ : ByteArray) ++ ⟨#[10]⟩ = ⟨#[83, 49, 58, 32, 97, 124, 98, 66, 32, 35, 32, 124, 32, 99, 10, 32, 32, 58, 10]⟩ := by rw [cat]; rfl

theorem forms_same (g cap : Nat) (w1 w2 : World) (hg : g < w1.heap.size) (hT : Toks w1 g formsL) (hb2 : Below (w1.alloc (.cells #[.int .i64 1, .string ⟨#[83, 49]⟩, .int .i64 1, .int .i64 1, .int .i64 3, .string ⟨#[58]⟩, .int .i64 1, .int .i64 3, .int .i64 2, .string ⟨#[97]⟩, .int .i64 1, .int .i64 5, .int .i64 4, .string ⟨#[124]⟩, .int .i64 1, .int .i64 6, .int .i64 2, .string ⟨#[98, 66]⟩, .int .i64 1, .int .i64 7, .int .i64 5, .string ⟨#[]⟩, .int .i64 1, .int .i64 15, .int .i64 3, .string ⟨#[58]⟩, .int .i64 2, .int .i64 3, .int .i64 5, .string ⟨#[]⟩, .int .i64 2, .int .i64 4] 27)).heap.size (w1.alloc (.cells #[.int .i64 1, .string ⟨#[83, 49]⟩, .int .i64 1, .int .i64 1, .int .i64 3, .string ⟨#[58]⟩, .int .i64 1, .int .i64 3, .int .i64 2, .string ⟨#[97]⟩, .int .i64 1, .int .i64 5, .int .i64 4, .string ⟨#[124]⟩, .int .i64 1, .int .i64 6, .int .i64 2, .string ⟨#[98, 66]⟩, .int .i64 1, .int .i64 7, .int .i64 5, .string ⟨#[]⟩, .int .i64 1, .int .i64 15, .int .i64 3, .string ⟨#[58]⟩, .int .i64 2, .int .i64 3, .int .i64 5, .string ⟨#[]⟩, .int .i64 2, .int .i64 4] 27)) w2) :
    Calls Try.prog 8 #[.slice (some ⟨g, 0, none⟩) 8 cap, .slice (some ⟨w1.heap.size, 0, none⟩) 8 8] w2 fun e w' => e = .returned (.bool true) ∧ Below w1.heap.size w1 w' := by
  have ha : Below w1.heap.size w1 (w1.alloc (.cells #[.int .i64 1, .string ⟨#[83, 49]⟩, .int .i64 1, .int .i64 1, .int .i64 3, .string ⟨#[58]⟩, .int .i64 1, .int .i64 3, .int .i64 2, .string ⟨#[97]⟩, .int .i64 1, .int .i64 5, .int .i64 4, .string ⟨#[124]⟩, .int .i64 1, .int .i64 6, .int .i64 2, .string ⟨#[98, 66]⟩, .int .i64 1, .int .i64 7, .int .i64 5, .string ⟨#[]⟩, .int .i64 1, .int .i64 15, .int .i64 3, .string ⟨#[58]⟩, .int .i64 2, .int .i64 3, .int .i64 5, .string ⟨#[]⟩, .int .i64 2, .int .i64 4] 27)) := (Below.refl _ _).alloc (Nat.le_refl _) _
  have hb : Below w1.heap.size w1 w2 := ha.trans (hb2.mono ha.size)
  have hA : Toks w2 g formsL := hT.below hg hb
  have hn : Toks (w1.alloc (.cells #[.int .i64 1, .string ⟨#[83, 49]⟩, .int .i64 1, .int .i64 1, .int .i64 3, .string ⟨#[58]⟩, .int .i64 1, .int .i64 3, .int .i64 2, .string ⟨#[97]⟩, .int .i64 1, .int .i64 5, .int .i64 4, .string ⟨#[124]⟩, .int .i64 1, .int .i64 6, .int .i64 2, .string ⟨#[98, 66]⟩, .int .i64 1, .int .i64 7, .int .i64 5, .string ⟨#[]⟩, .int .i64 1, .int .i64 15, .int .i64 3, .string ⟨#[58]⟩, .int .i64 2, .int .i64 3, .int .i64 5, .string ⟨#[]⟩, .int .i64 2, .int .i64 4] 27)) w1.heap.size formsL := toks_new w1 27 formsL _ forms_cells
  have hB : Toks w2 w1.heap.size formsL := hn.below (by simp) hb2
  exact (same_any g w1.heap.size cap 8 formsL w2 (by decide) hA hB).mono fun e w' ⟨he, n, hw⟩ => ⟨he, by subst hw; exact below_draws' hb n⟩

theorem tokens_none (w : World) : Calls Try.prog 7 #[.string ⟨#[]⟩] w fun e w' => ∃ a c, e = .returned (.tuple #[.slice a 0 c, .int .i64 0, .int .i64 0, .int .i64 0]) ∧ Below w.heap.size w w' := by
  refine (tokens_ok ⟨#[]⟩ w [] (by decide) (by decide +kernel)).mono fun e w' ⟨v, he, hb, hown⟩ => ?_
  unfold Owns at hown
  rcases hown.2 with ⟨hv, _⟩ | ⟨g, cap, cur, hv, _, hg, hc, _⟩
  · subst hv; exact ⟨none, 0, he, hb⟩
  · subst hv; exact ⟨some ⟨g, 0, none⟩, cap, he, hb⟩

theorem tokens_forms (s : ByteArray) (h : txt s.data.toList 1 = (formsL, 0, 0)) (hs : s.size ≤ 1000000) (W : World) :
    Calls Try.prog 7 #[.string s] W fun e w' => ∃ g cap, e = .returned (.tuple #[.slice (some ⟨g, 0, none⟩) 8 cap, .int .i64 0, .int .i64 0, .int .i64 0]) ∧ Below W.heap.size W w' ∧ 8 ≤ cap ∧ g < w'.heap.size ∧ Toks w' g formsL := by
  refine (tokens_ok s W formsL hs h).mono fun e w' ⟨v, he, hb, hown⟩ => ?_
  obtain ⟨g, cap, rfl, hcap, _, hg, hT⟩ := hown.toks (by decide)
  exact ⟨g, cap, he, hb, hcap, hg, hT⟩

set_option maxRecDepth 100000 in
set_option maxHeartbeats 8000000 in
theorem forms_walk (b : Bool) (w : World) : Calls Try.prog 3 #[.bool b] w fun e w' => e = .returned (.bool true) ∧ Below w.heap.size w w' := by
  have hF0 := tokens_forms ⟨#[83, 49, 58, 32, 97, 124, 98, 66, 32, 35, 32, 124, 32, 99, 10, 32, 32, 58]⟩ forms0 (by decide)
  have hF1 := tokens_forms ⟨#[83, 49, 58, 32, 97, 124, 98, 66, 32, 35, 32, 124, 32, 99, 10, 32, 32, 58, 10]⟩ forms1 (by decide)
  cases b
  ·   go_enter Try.func3, Try.ntmps3
      go_wp2_with (first
        | (go_at_call 7; with_reducible refine (tokens_none _).mono ?_; rintro e w2 ⟨na, nc, rfl, hb2⟩)
        | (go_at_call 7; with_reducible refine (hF0 _).mono ?_; rintro e w1 ⟨g, cap, rfl, hb1, hcap, hg, hT⟩)
        | (go_at_call 8; refine (forms_same g cap w1 _ hg hT hb2).mono ?_; rintro e w3 ⟨rfl, hb3⟩)
        | (go_at_call 9; refine (wakes_any _).mono ?_; rintro e w4 ⟨rfl, hb4⟩))
      go_ret
      exact ⟨rfl, (hb1.trans (hb3.mono hb1.size)).trans (hb4.mono (Nat.le_trans hb1.size hb3.size))⟩
  ·   go_enter Try.func3, Try.ntmps3
      go_wp2_with (first
        | (go_at_call 7; rw [forms_cat]; with_reducible refine (hF1 _).mono ?_; rintro e w1 ⟨g, cap, rfl, hb1, hcap, hg, hT⟩)
        | (go_at_call 7; with_reducible refine (tokens_none _).mono ?_; rintro e w2 ⟨na, nc, rfl, hb2⟩)
        | (go_at_call 8; refine (forms_same g cap w1 _ hg hT hb2).mono ?_; rintro e w3 ⟨rfl, hb3⟩)
        | (go_at_call 9; refine (wakes_any _).mono ?_; rintro e w4 ⟨rfl, hb4⟩))
      go_ret
      exact ⟨rfl, (hb1.trans (hb3.mono hb1.size)).trans (hb4.mono (Nat.le_trans hb1.size hb3.size))⟩

end Go.Proofs.Ytjllidbggcenkaa
