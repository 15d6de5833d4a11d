/- All words of some terminals, level by level: plain words. No program here. -/
import Derived.Test.YtflfmcikfiaoiaaWordS
set_option linter.unusedVariables false
namespace Go.Proofs.Ytflfmcikfiaoiaa.Al

def ext (t : Nat) (w : List Int) : List (List Int) := (List.range t).map fun i => w ++ [((i + 1 : Nat) : Int)]
def lev (t : Nat) : Nat → List (List Int)
  | 0 => [[]]
  | k + 1 => (lev t k).flatMap (ext t)
def levs (t : Nat) : Nat → List (List Int)
  | 0 => [[]]
  | k + 1 => levs t k ++ lev t (k + 1)
theorem ext_len (t : Nat) (w : List Int) : (ext t w).length = t := by simp [ext]
theorem lev_len (t : Nat) : ∀ k, (lev t k).length = t ^ k
  | 0 => rfl
  | k + 1 => by
    show ((lev t k).flatMap (ext t)).length = _
    rw [List.length_flatMap, show (lev t k).map (fun a => (ext t a).length) = (lev t k).map fun _ => t by simp [ext_len]]
    rw [List.map_const', List.sum_replicate_nat, lev_len t k, Nat.pow_succ]
theorem lev_word {t : Nat} : ∀ {k : Nat} {w : List Int}, w ∈ lev t k ↔ w.length = k ∧ ∀ s ∈ w, 1 ≤ s ∧ s ≤ (t : Int)
  | 0, w => by
    simp only [lev, List.mem_singleton]
    constructor
    · rintro rfl; simp
    · rintro ⟨h, _⟩; exact List.length_eq_zero_iff.1 h
  | k + 1, w => by
    simp only [lev, List.mem_flatMap, ext, List.mem_map, List.mem_range]
    constructor
    · rintro ⟨v, hv, i, hi, rfl⟩
      obtain ⟨h1, h2⟩ := lev_word.1 hv
      refine ⟨by simp [h1], fun s hs => ?_⟩
      rcases List.mem_append.1 hs with hs | hs
      · exact h2 s hs
      · simp only [List.mem_singleton] at hs; subst hs; omega
    · rintro ⟨h1, h2⟩
      have hne : w ≠ [] := by intro e; rw [e] at h1; simp at h1
      refine ⟨w.dropLast, lev_word.2 ⟨by simp [h1], fun s hs => h2 s (List.dropLast_subset _ hs)⟩, (w.getLast hne - 1).toNat, ?_, ?_⟩
      · have := h2 _ (List.getLast_mem hne); omega
      · have := h2 _ (List.getLast_mem hne)
        have e : (((w.getLast hne - 1).toNat + 1 : Nat) : Int) = w.getLast hne := by omega
        rw [e]
        exact List.dropLast_concat_getLast hne
theorem levs_word {t : Nat} : ∀ {k : Nat} {w : List Int}, w ∈ levs t k ↔ w.length ≤ k ∧ ∀ s ∈ w, 1 ≤ s ∧ s ≤ (t : Int)
  | 0, w => by
    simp only [levs, List.mem_singleton]
    constructor
    · rintro rfl; simp
    · rintro ⟨h, _⟩; exact List.length_eq_zero_iff.1 (by omega)
  | k + 1, w => by
    simp only [levs, List.mem_append]
    rw [levs_word, lev_word]
    constructor
    · rintro (⟨h1, h2⟩ | ⟨h1, h2⟩)
      · exact ⟨by omega, h2⟩
      · exact ⟨by omega, h2⟩
    · rintro ⟨h1, h2⟩
      by_cases h : w.length ≤ k
      · exact .inl ⟨h, h2⟩
      · exact .inr ⟨by omega, h2⟩
/-- How many there are ahead of a level. -/
def off (t : Nat) : Nat → Nat
  | 0 => 0
  | k + 1 => off t k + (lev t k).length
theorem levs_len (t : Nat) : ∀ k, (levs t k).length = off t k + (lev t k).length
  | 0 => rfl
  | k + 1 => by
    show (levs t k ++ lev t (k + 1)).length = off t k + (lev t k).length + _
    rw [List.length_append, levs_len t k]
theorem levs_at {t : Nat} : ∀ {k m : Nat} {w : List Int}, (lev t k)[m]? = some w → (levs t k)[off t k + m]? = some w
  | 0, m, w, h => by simpa [levs, off, lev] using h
  | k + 1, m, w, h => by
    show (levs t k ++ lev t (k + 1))[off t k + (lev t k).length + m]? = some w
    rw [List.getElem?_append_right (by rw [levs_len]; omega), levs_len, show off t k + (lev t k).length + m - (off t k + (lev t k).length) = m by omega]
    exact h

/-- The words that there are when all of the levels ahead, and m of this one, were made longer. -/
def made (t k m : Nat) : List (List Int) := levs t k ++ ((lev t k).take m).flatMap (ext t)
theorem made_zero (t k : Nat) : made t k 0 = levs t k := by simp [made]
theorem made_full (t k : Nat) : made t k (lev t k).length = levs t (k + 1) := by simp [made, levs, lev]
theorem made_at {t k m : Nat} {w : List Int} (h : (lev t k)[m]? = some w) : (made t k m)[off t k + m]? = some w := by
  have hm := (List.getElem?_eq_some_iff.1 h).1
  unfold made
  rw [List.getElem?_append_left (by rw [levs_len]; omega)]
  exact levs_at h
theorem made_step {t k m : Nat} {w : List Int} (h : (lev t k)[m]? = some w) : made t k (m + 1) = made t k m ++ ext t w := by
  unfold made
  rw [List.take_add_one, h]; simp
theorem off_next (t k : Nat) : off t (k + 1) = off t k + (lev t k).length := rfl
theorem lev_none {t k : Nat} (h : lev t k = []) : ∀ j, lev t (k + j) = []
  | 0 => h
  | j + 1 => by show (lev t (k + j)).flatMap (ext t) = []; rw [lev_none h j]; rfl
theorem levs_none {t k : Nat} (h : lev t (k + 1) = []) : ∀ j, levs t (k + j) = levs t k
  | 0 => rfl
  | j + 1 => by
    show levs t (k + j) ++ lev t (k + j + 1) = levs t k
    rw [levs_none h j, show k + j + 1 = k + 1 + j by omega, lev_none h j, List.append_nil]
theorem levs_le {t : Nat} {k L : Nat} (h : k ≤ L) : (levs t k).length ≤ (levs t L).length := by
  induction L with
  | zero => obtain rfl : k = 0 := by omega
            exact Nat.le_refl _
  | succ L ih =>
    by_cases hk : k = L + 1
    · subst hk; exact Nat.le_refl _
    · have := ih (by omega)
      show _ ≤ (levs t L ++ lev t (L + 1)).length
      rw [List.length_append]; omega
theorem made_le {t k m L : Nat} (h : k < L) : (made t k m).length ≤ (levs t L).length := by
  refine Nat.le_trans ?_ (levs_le (show k + 1 ≤ L by omega))
  rw [← made_full]
  unfold made
  rw [List.length_append, List.length_append]
  have hs : (((lev t k).take m).flatMap (ext t)).length ≤ (((lev t k).take (lev t k).length).flatMap (ext t)).length := by
    rw [List.take_length]
    conv => rhs; rw [← List.take_append_drop m (lev t k), List.flatMap_append, List.length_append]
    omega
  omega
theorem levs_bound {t L : Nat} (ht : t ≤ 8) (hL : L ≤ 5) : (levs t L).length ≤ 37449 := by
  have h : ∀ k, k ≤ 5 → (lev t k).length ≤ 8 ^ k := fun k _ => by rw [lev_len]; exact Nat.pow_le_pow_left ht k
  refine Nat.le_trans (levs_le hL) ?_
  have e : (levs t 5).length = 1 + (lev t 1).length + (lev t 2).length + (lev t 3).length + (lev t 4).length + (lev t 5).length := by
    simp only [levs, List.length_append]; rfl
  have h1 := h 1 (by omega)
  have h2 := h 2 (by omega)
  have h3 := h 3 (by omega)
  have h4 := h 4 (by omega)
  have h5 := h 5 (by omega)
  omega
end Go.Proofs.Ytflfmcikfiaoiaa.Al
