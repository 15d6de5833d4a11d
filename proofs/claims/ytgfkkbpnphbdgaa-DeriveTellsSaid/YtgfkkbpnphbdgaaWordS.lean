/- The least words of a grammar, and what they cost, in plain words. No program here. -/
import Derived.Test.YtgfkkbpnphbdgaaSpec
namespace Go.Proofs.Ytgfkkbpnphbdgaa.Wd
open Doc

/-- Ahead by the first place where they differ. -/
def lexI : List Int → List Int → Bool
  | x :: a, y :: b => if x = y then lexI a b else decide (x < y)
  | _, _ => false
/-- Shorter, or as long and ahead. -/
def lessI (a b : List Int) : Bool := if a.length = b.length then lexI a b else decide (a.length < b.length)
theorem lex_irrefl : ∀ a, lexI a a = false
  | [] => rfl
  | x :: a => by simp [lexI, lex_irrefl a]
theorem less_irrefl (a : List Int) : lessI a a = false := by simp [lessI, lex_irrefl]
theorem lex_trans : ∀ a b c : List Int, lexI a b = true → lexI b c = true → lexI a c = true
  | [], _, _, h, _ => by simp [lexI] at h
  | _ :: _, [], _, h, _ => by simp [lexI] at h
  | _ :: _, _ :: _, [], _, h => by simp [lexI] at h
  | x :: a, y :: b, z :: c, h1, h2 => by
    have ih := lex_trans a b c
    simp only [lexI] at h1 h2 ⊢
    by_cases e1 : x = y
    · subst e1
      rw [if_pos rfl] at h1
      by_cases e2 : x = z
      · subst e2; rw [if_pos rfl] at h2 ⊢; exact ih h1 h2
      · rw [if_neg e2] at h2 ⊢; exact h2
    · rw [if_neg e1] at h1
      simp only [decide_eq_true_eq] at h1
      by_cases e2 : y = z
      · subst e2; rw [if_neg e1]; simpa using h1
      · rw [if_neg e2] at h2
        simp only [decide_eq_true_eq] at h2
        rw [if_neg (by omega)]; simp; omega
theorem lex_total : ∀ a b : List Int, a.length = b.length → lexI a b = true ∨ lexI b a = true ∨ a = b
  | [], [], _ => .inr (.inr rfl)
  | [], _ :: _, h => by simp at h
  | _ :: _, [], h => by simp at h
  | x :: a, y :: b, h => by
    simp only [lexI]
    by_cases e : x = y
    · subst e
      rw [if_pos rfl, if_pos rfl]
      rcases lex_total a b (by simpa using h) with h | h | h
      · exact .inl h
      · exact .inr (.inl h)
      · exact .inr (.inr (by rw [h]))
    · rw [if_neg e, if_neg (Ne.symm e)]
      simp only [decide_eq_true_eq]
      rcases Int.lt_trichotomy x y with h | h | h
      · exact .inl h
      · exact absurd h e
      · exact .inr (.inl h)
theorem less_iff (a b : List Int) : lessI a b = true ↔ a.length < b.length ∨ (a.length = b.length ∧ lexI a b = true) := by
  unfold lessI
  split
  · rename_i h; simp only [h, Nat.lt_irrefl, false_or, true_and]
  · rename_i h; simp only [decide_eq_true_eq, h, false_and, or_false]
theorem less_trans {a b c : List Int} (h1 : lessI a b = true) (h2 : lessI b c = true) : lessI a c = true := by
  rw [less_iff] at *
  rcases h1 with h1 | ⟨h1, h1'⟩ <;> rcases h2 with h2 | ⟨h2, h2'⟩
  · exact .inl (by omega)
  · exact .inl (by omega)
  · exact .inl (by omega)
  · exact .inr ⟨by omega, lex_trans _ _ _ h1' h2'⟩
theorem less_total (a b : List Int) : lessI a b = true ∨ lessI b a = true ∨ a = b := by
  rw [less_iff, less_iff]
  rcases Nat.lt_trichotomy a.length b.length with h | h | h
  · exact .inl (.inl h)
  · rcases lex_total a b h with h' | h' | h'
    · exact .inl (.inr ⟨h, h'⟩)
    · exact .inr (.inl (.inr ⟨h.symm, h'⟩))
    · exact .inr (.inr h')
  · exact .inr (.inl (.inl h))
theorem less_asymm {a b : List Int} (h : lessI a b = true) : lessI b a = false := by
  cases h' : lessI b a with
  | false => rfl
  | true => have := less_trans h h'; rw [less_irrefl] at this; cases this
/-- Not behind. -/
def leI (a b : List Int) : Prop := lessI b a = false
theorem le_refl (a : List Int) : leI a a := less_irrefl a
theorem le_cases {a b : List Int} (h : leI a b) : lessI a b = true ∨ a = b := by
  rcases less_total a b with h' | h' | h'
  · exact .inl h'
  · rw [h] at h'; cases h'
  · exact .inr h'
theorem le_trans {a b c : List Int} (h1 : leI a b) (h2 : leI b c) : leI a c := by
  rcases le_cases h1 with h1 | rfl
  · rcases le_cases h2 with h2 | rfl
    · exact less_asymm (less_trans h1 h2)
    · exact less_asymm h1
  · exact h2
abbrev Kn := List (Option (List Int))
def known (L : Kn) (k : Nat) : Option (List Int) := (L[k]?).join
def none_ (n : Nat) : Kn := List.replicate n none
end Go.Proofs.Ytgfkkbpnphbdgaa.Wd
