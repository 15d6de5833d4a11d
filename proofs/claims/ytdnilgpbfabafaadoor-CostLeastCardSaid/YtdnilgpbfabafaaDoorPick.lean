/- The least of a list of words, said outright; what one that is no cost, put in, does to its place. No program, no model. -/
import Derived.Test.YtdnilgpbfabafaaDoorFloat
namespace Go.Proofs.YtdnilgpbfabafaaDoor.Fl

/-- What Least's place is: none is a finite cost; or it is one, as little as any, and the first such. -/
def LeastIs (l : List Nat) (z : Int) : Prop :=
  (z = -1 ∧ ∀ i, i < l.length → ¬ (right (l.getD i 0) = true ∧ l.getD i 0 < inf)) ∨
  ∃ k : Nat, k < l.length ∧ z = k ∧ right (l.getD k 0) = true ∧ l.getD k 0 < inf ∧ ∀ i, i < l.length → right (l.getD i 0) = true → l.getD k 0 ≤ l.getD i 0 ∧ (i < k → l.getD k 0 < l.getD i 0)

theorem pick_spec (l : List Nat) : ∀ n, n ≤ l.length →
    (pick (l.take n) = (-1, inf) ∧ ∀ i, i < n → ¬ (right (l.getD i 0) = true ∧ l.getD i 0 < inf)) ∨
    ∃ k : Nat, k < n ∧ pick (l.take n) = ((k : Int), l.getD k 0) ∧ right (l.getD k 0) = true ∧ l.getD k 0 < inf ∧ ∀ i, i < n → right (l.getD i 0) = true → l.getD k 0 ≤ l.getD i 0 ∧ (i < k → l.getD k 0 < l.getD i 0) := by
  intro n
  induction n with
  | zero => intro _; exact .inl ⟨rfl, fun i h => by omega⟩
  | succ n ih =>
    intro hn
    have hs := pick_step l n (by omega)
    rcases ih (by omega) with ⟨hp, hno⟩ | ⟨k, hk, hp, hr, hlt, hle⟩
    · rw [hp] at hs
      dsimp only at hs
      by_cases hc : (right (l.getD n 0) && decide (l.getD n 0 < inf)) = true
      · rw [if_pos hc] at hs
        simp only [Bool.and_eq_true, decide_eq_true_eq] at hc
        refine .inr ⟨n, by omega, hs, hc.1, hc.2, fun i hi hr => ?_⟩
        rcases Nat.lt_or_ge i n with h | h
        · have := hno i h
          have hri := right_le hr
          have : ¬ l.getD i 0 < inf := fun h => this ⟨hr, h⟩
          exact ⟨by omega, fun _ => by omega⟩
        · obtain rfl : i = n := by omega
          exact ⟨Nat.le_refl _, fun h => by omega⟩
      · rw [if_neg hc] at hs
        refine .inl ⟨hs, fun i hi hx => ?_⟩
        rcases Nat.lt_or_ge i n with h | h
        · exact hno i h hx
        · obtain rfl : i = n := by omega
          exact hc (by simp only [Bool.and_eq_true, decide_eq_true_eq]; exact hx)
    · rw [hp] at hs
      dsimp only at hs
      by_cases hc : (right (l.getD n 0) && decide (l.getD n 0 < l.getD k 0)) = true
      · rw [if_pos hc] at hs
        simp only [Bool.and_eq_true, decide_eq_true_eq] at hc
        refine .inr ⟨n, by omega, hs, hc.1, by omega, fun i hi hr => ?_⟩
        rcases Nat.lt_or_ge i n with h | h
        · have := (hle i h hr).1
          exact ⟨by omega, fun _ => by omega⟩
        · obtain rfl : i = n := by omega
          exact ⟨Nat.le_refl _, fun h => by omega⟩
      · rw [if_neg hc] at hs
        refine .inr ⟨k, by omega, hs, hr, hlt, fun i hi hri => ?_⟩
        rcases Nat.lt_or_ge i n with h | h
        · exact hle i h hri
        · obtain rfl : i = n := by omega
          simp only [Bool.and_eq_true, decide_eq_true_eq, not_and] at hc
          have := hc hri
          exact ⟨by omega, fun h => by omega⟩
theorem pick_least (l : List Nat) : LeastIs l (pick l).1 := by
  have h := pick_spec l l.length (Nat.le_refl _)
  rw [List.take_length] at h
  rcases h with ⟨h1, h2⟩ | ⟨k, h1, h2, h3⟩
  · exact .inl ⟨by rw [h1], h2⟩
  · exact .inr ⟨k, h1, by rw [h2], h3⟩
theorem leastIs_unique (l : List Nat) (y z : Int) (hy : LeastIs l y) (hz : LeastIs l z) : y = z := by
  rcases hy with ⟨rfl, h1⟩ | ⟨k, h1, rfl, h2, h3, h4⟩ <;> rcases hz with ⟨rfl, g1⟩ | ⟨j, g1, rfl, g2, g3, g4⟩
  · rfl
  · exact absurd ⟨g2, g3⟩ (h1 j g1)
  · exact absurd ⟨h2, h3⟩ (g1 k h1)
  · have a := h4 j g1 g2
    have b := g4 k h1 h2
    rcases Nat.lt_trichotomy k j with h | h | h
    · have := b.2 h; omega
    · rw [h]
    · have := a.2 h; omega
/-- One that is no cost, put in at a place: what stood there or behind it is one further on. -/
theorem least_insert (l : List Nat) (x at_ : Nat) (ha : at_ ≤ l.length) (hx : right x = false) :
    (pick (l.take at_ ++ x :: l.drop at_)).1 = if (at_ : Int) ≤ (pick l).1 then (pick l).1 + 1 else (pick l).1 := by
  have hlen : (l.take at_ ++ x :: l.drop at_).length = l.length + 1 := by simp; omega
  have g1 : ∀ i, i < at_ → (l.take at_ ++ x :: l.drop at_).getD i 0 = l.getD i 0 := by
    intro i hi
    simp only [List.getD]
    rw [List.getElem?_append_left (by simp; omega), List.getElem?_take, if_pos hi]
  have g2 : (l.take at_ ++ x :: l.drop at_).getD at_ 0 = x := by
    simp only [List.getD]
    rw [List.getElem?_append_right (by simp; omega), List.length_take, Nat.min_eq_left ha, Nat.sub_self]; rfl
  have g3 : ∀ i, at_ ≤ i → (l.take at_ ++ x :: l.drop at_).getD (i + 1) 0 = l.getD i 0 := by
    intro i hi
    simp only [List.getD]
    rw [List.getElem?_append_right (by simp; omega), List.length_take, Nat.min_eq_left ha, show i + 1 - at_ = (i - at_) + 1 by omega, List.getElem?_cons_succ, List.getElem?_drop, show at_ + (i - at_) = i by omega]
  refine leastIs_unique _ _ _ (pick_least _) ?_
  generalize l.take at_ ++ x :: l.drop at_ = m at *
  rcases pick_least l with ⟨h0, h1⟩ | ⟨k, h1, h0, h2, h3, h4⟩
  · rw [h0, if_neg (by omega)]
    refine .inl ⟨rfl, fun i hi hc => ?_⟩
    rcases Nat.lt_trichotomy i at_ with h | h | h
    · rw [g1 i h] at hc; exact h1 i (by omega) hc
    · rw [h, g2, hx] at hc; cases hc.1
    · obtain ⟨j, rfl⟩ : ∃ j, i = j + 1 := ⟨i - 1, by omega⟩
      rw [g3 j (by omega)] at hc; exact h1 j (by omega) hc
  · rw [h0]
    have hall : ∀ i, i < m.length → right (m.getD i 0) = true → ∃ j, j < l.length ∧ m.getD i 0 = l.getD j 0 ∧ ((i < at_ ∧ j = i) ∨ (at_ < i ∧ i = j + 1)) := by
      intro i hi hr
      rcases Nat.lt_trichotomy i at_ with h | h | h
      · exact ⟨i, by omega, g1 i h, .inl ⟨h, rfl⟩⟩
      · rw [h, g2, hx] at hr; cases hr
      · obtain ⟨j, rfl⟩ : ∃ j, i = j + 1 := ⟨i - 1, by omega⟩
        exact ⟨j, by omega, g3 j (by omega), .inr ⟨h, rfl⟩⟩
    by_cases hk : at_ ≤ k
    · rw [if_pos (by omega)]
      refine .inr ⟨k + 1, by omega, by omega, ?_⟩
      rw [g3 k hk]
      refine ⟨h2, h3, fun i hi hr => ?_⟩
      obtain ⟨j, hj, e, hh⟩ := hall i hi hr
      rw [e] at hr ⊢
      have := h4 j hj hr
      exact ⟨this.1, fun hik => this.2 (by omega)⟩
    · rw [if_neg (by omega)]
      refine .inr ⟨k, by omega, rfl, ?_⟩
      rw [g1 k (by omega)]
      refine ⟨h2, h3, fun i hi hr => ?_⟩
      obtain ⟨j, hj, e, hh⟩ := hall i hi hr
      rw [e] at hr ⊢
      have := h4 j hj hr
      exact ⟨this.1, fun hik => this.2 (by omega)⟩
end Go.Proofs.YtdnilgpbfabafaaDoor.Fl
