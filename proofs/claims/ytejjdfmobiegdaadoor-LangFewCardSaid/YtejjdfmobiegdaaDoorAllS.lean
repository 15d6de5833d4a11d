/- All words of some terminals, level by level: plain words. No program here. All words of some terminals, in their order, and the first of them that are asked for: plain words. No program here. -/
import Derived.Test.YtejjdfmobiegdaaDoorWordS
set_option linter.unusedVariables false
namespace Go.Proofs.YtejjdfmobiegdaaDoor.Al

def ext (t : Nat) (w : List Int) : List (List Int) := (List.range t).map fun i => w ++ [((i + 1 : Nat) : Int)]
def lev (t : Nat) : Nat → List (List Int)
  | 0 => [[]]
  | k + 1 => (lev t k).flatMap (ext t)
def levs (t : Nat) : Nat → List (List Int)
  | 0 => [[]]
  | k + 1 => levs t k ++ lev t (k + 1)
theorem ext_len (t : Nat) (w : List Int) : (ext t w).length = t := by simp [ext]
theorem lev_len (t : Nat) : ∀ k, (lev t k).length = t ^ k
  | 0 => rfl
  | k + 1 => by
    show ((lev t k).flatMap (ext t)).length = _
    rw [List.length_flatMap, show (lev t k).map (fun a => (ext t a).length) = (lev t k).map fun _ => t by simp [ext_len]]
    rw [List.map_const', List.sum_replicate_nat, lev_len t k, Nat.pow_succ]
theorem lev_word {t : Nat} : ∀ {k : Nat} {w : List Int}, w ∈ lev t k ↔ w.length = k ∧ ∀ s ∈ w, 1 ≤ s ∧ s ≤ (t : Int)
  | 0, w => by
    simp only [lev, List.mem_singleton]
    constructor
    · rintro rfl; simp
    · rintro ⟨h, _⟩; exact List.length_eq_zero_iff.1 h
  | k + 1, w => by
    simp only [lev, List.mem_flatMap, ext, List.mem_map, List.mem_range]
    constructor
    · rintro ⟨v, hv, i, hi, rfl⟩
      obtain ⟨h1, h2⟩ := lev_word.1 hv
      refine ⟨by simp [h1], fun s hs => ?_⟩
      rcases List.mem_append.1 hs with hs | hs
      · exact h2 s hs
      · simp only [List.mem_singleton] at hs; subst hs; omega
    · rintro ⟨h1, h2⟩
      have hne : w ≠ [] := by intro e; rw [e] at h1; simp at h1
      refine ⟨w.dropLast, lev_word.2 ⟨by simp [h1], fun s hs => h2 s (List.dropLast_subset _ hs)⟩, (w.getLast hne - 1).toNat, ?_, ?_⟩
      · have := h2 _ (List.getLast_mem hne); omega
      · have := h2 _ (List.getLast_mem hne)
        have e : (((w.getLast hne - 1).toNat + 1 : Nat) : Int) = w.getLast hne := by omega
        rw [e]
        exact List.dropLast_concat_getLast hne
theorem levs_word {t : Nat} : ∀ {k : Nat} {w : List Int}, w ∈ levs t k ↔ w.length ≤ k ∧ ∀ s ∈ w, 1 ≤ s ∧ s ≤ (t : Int)
  | 0, w => by
    simp only [levs, List.mem_singleton]
    constructor
    · rintro rfl; simp
    · rintro ⟨h, _⟩; exact List.length_eq_zero_iff.1 (by omega)
  | k + 1, w => by
    simp only [levs, List.mem_append]
    rw [levs_word, lev_word]
    constructor
    · rintro (⟨h1, h2⟩ | ⟨h1, h2⟩)
      · exact ⟨by omega, h2⟩
      · exact ⟨by omega, h2⟩
    · rintro ⟨h1, h2⟩
      by_cases h : w.length ≤ k
      · exact .inl ⟨h, h2⟩
      · exact .inr ⟨by omega, h2⟩
/-- How many there are ahead of a level. -/
def off (t : Nat) : Nat → Nat
  | 0 => 0
  | k + 1 => off t k + (lev t k).length
theorem levs_len (t : Nat) : ∀ k, (levs t k).length = off t k + (lev t k).length
  | 0 => rfl
  | k + 1 => by
    show (levs t k ++ lev t (k + 1)).length = off t k + (lev t k).length + _
    rw [List.length_append, levs_len t k]
theorem levs_at {t : Nat} : ∀ {k m : Nat} {w : List Int}, (lev t k)[m]? = some w → (levs t k)[off t k + m]? = some w
  | 0, m, w, h => by simpa [levs, off, lev] using h
  | k + 1, m, w, h => by
    show (levs t k ++ lev t (k + 1))[off t k + (lev t k).length + m]? = some w
    rw [List.getElem?_append_right (by rw [levs_len]; omega), levs_len, show off t k + (lev t k).length + m - (off t k + (lev t k).length) = m by omega]
    exact h

/-- The words that there are when all of the levels ahead, and m of this one, were made longer. -/
def made (t k m : Nat) : List (List Int) := levs t k ++ ((lev t k).take m).flatMap (ext t)
theorem made_zero (t k : Nat) : made t k 0 = levs t k := by simp [made]
theorem made_full (t k : Nat) : made t k (lev t k).length = levs t (k + 1) := by simp [made, levs, lev]
theorem made_at {t k m : Nat} {w : List Int} (h : (lev t k)[m]? = some w) : (made t k m)[off t k + m]? = some w := by
  have hm := (List.getElem?_eq_some_iff.1 h).1
  unfold made
  rw [List.getElem?_append_left (by rw [levs_len]; omega)]
  exact levs_at h
theorem made_step {t k m : Nat} {w : List Int} (h : (lev t k)[m]? = some w) : made t k (m + 1) = made t k m ++ ext t w := by
  unfold made
  rw [List.take_add_one, h]; simp
theorem off_next (t k : Nat) : off t (k + 1) = off t k + (lev t k).length := rfl
theorem lev_none {t k : Nat} (h : lev t k = []) : ∀ j, lev t (k + j) = []
  | 0 => h
  | j + 1 => by show (lev t (k + j)).flatMap (ext t) = []; rw [lev_none h j]; rfl
theorem levs_none {t k : Nat} (h : lev t (k + 1) = []) : ∀ j, levs t (k + j) = levs t k
  | 0 => rfl
  | j + 1 => by
    show levs t (k + j) ++ lev t (k + j + 1) = levs t k
    rw [levs_none h j, show k + j + 1 = k + 1 + j by omega, lev_none h j, List.append_nil]
theorem levs_le {t : Nat} {k L : Nat} (h : k ≤ L) : (levs t k).length ≤ (levs t L).length := by
  induction L with
  | zero => obtain rfl : k = 0 := by omega
            exact Nat.le_refl _
  | succ L ih =>
    by_cases hk : k = L + 1
    · subst hk; exact Nat.le_refl _
    · have := ih (by omega)
      show _ ≤ (levs t L ++ lev t (L + 1)).length
      rw [List.length_append]; omega
theorem made_le {t k m L : Nat} (h : k < L) : (made t k m).length ≤ (levs t L).length := by
  refine Nat.le_trans ?_ (levs_le (show k + 1 ≤ L by omega))
  rw [← made_full]
  unfold made
  rw [List.length_append, List.length_append]
  have hs : (((lev t k).take m).flatMap (ext t)).length ≤ (((lev t k).take (lev t k).length).flatMap (ext t)).length := by
    rw [List.take_length]
    conv => rhs; rw [← List.take_append_drop m (lev t k), List.flatMap_append, List.length_append]
    omega
  omega
theorem levs_bound {t L : Nat} (ht : t ≤ 8) (hL : L ≤ 5) : (levs t L).length ≤ 37449 := by
  have h : ∀ k, k ≤ 5 → (lev t k).length ≤ 8 ^ k := fun k _ => by rw [lev_len]; exact Nat.pow_le_pow_left ht k
  refine Nat.le_trans (levs_le hL) ?_
  have e : (levs t 5).length = 1 + (lev t 1).length + (lev t 2).length + (lev t 3).length + (lev t 4).length + (lev t 5).length := by
    simp only [levs, List.length_append]; rfl
  have h1 := h 1 (by omega)
  have h2 := h 2 (by omega)
  have h3 := h 3 (by omega)
  have h4 := h 4 (by omega)
  have h5 := h 5 (by omega)
  omega
end Go.Proofs.YtejjdfmobiegdaaDoor.Al

set_option linter.unusedVariables false
namespace Go.Proofs.YtejjdfmobiegdaaDoor.Al
open Wd

theorem ext_cons (t : Nat) (s : Int) (w : List Int) : ext t (s :: w) = (ext t w).map (s :: ·) := by simp [ext]
theorem lev_cons (t : Nat) : ∀ k, lev t (k + 1) = (List.range t).flatMap fun i => (lev t k).map (((i + 1 : Nat) : Int) :: ·)
  | 0 => by
    show [[]].flatMap (ext t) = (List.range t).flatMap fun i => [[]].map _
    rw [List.flatMap_singleton]
    simp only [ext, List.map_cons, List.map_nil, List.nil_append]
    rw [List.flatMap_def]
    induction List.range t with
    | nil => rfl
    | cons a l ih => simp only [List.map_cons, List.flatten_cons, List.cons_append, List.nil_append, ih]
  | k + 1 => by
    show (lev t (k + 1)).flatMap (ext t) = _
    rw [lev_cons t k, List.flatMap_assoc]
    refine congrArg (fun f => (List.range t).flatMap f) (funext fun i => ?_)
    rw [← lev_cons t k, show lev t (k + 1) = (lev t k).flatMap (ext t) from rfl, List.flatMap_map, List.map_flatMap]
    exact congrArg (fun f => (lev t k).flatMap f) (funext fun w => ext_cons ..)
theorem lev_lex (t : Nat) : ∀ k, (lev t k).Pairwise (fun a b => lexI a b = true)
  | 0 => List.pairwise_singleton ..
  | k + 1 => by
    rw [lev_cons, List.pairwise_flatMap]
    refine ⟨fun i _ => ?_, ?_⟩
    · rw [List.pairwise_map]
      exact (lev_lex t k).imp fun h => by simpa [lexI] using h
    · refine List.pairwise_lt_range.imp fun {i j} hij => ?_
      intro a ha b hb
      obtain ⟨u, _, rfl⟩ := List.mem_map.1 ha
      obtain ⟨v, _, rfl⟩ := List.mem_map.1 hb
      unfold lexI
      rw [if_neg (by omega), decide_eq_true_iff]
      omega
theorem levs_less (t : Nat) : ∀ k, (levs t k).Pairwise (fun a b => lessI a b = true)
  | 0 => List.pairwise_singleton ..
  | k + 1 => by
    show (levs t k ++ lev t (k + 1)).Pairwise _
    rw [List.pairwise_append]
    refine ⟨levs_less t k, ?_, fun a ha b hb => ?_⟩
    · refine List.Pairwise.imp_of_mem (fun {a b} ha hb h => ?_) (lev_lex t (k + 1))
      have h1 := (lev_word.1 ha).1
      have h2 := (lev_word.1 hb).1
      exact (less_iff _ _).2 (.inr ⟨by omega, h⟩)
    · have h1 := (levs_word.1 ha).1
      have h2 := (lev_word.1 hb).1
      exact (less_iff _ _).2 (.inl (by omega))
theorem levs_next {t k i : Nat} {a b : List Int} (ha : (levs t k)[i]? = some a) (hb : (levs t k)[i + 1]? = some b) : lessI a b = true := by
  obtain ⟨h1, e1⟩ := List.getElem?_eq_some_iff.1 ha
  obtain ⟨h2, e2⟩ := List.getElem?_eq_some_iff.1 hb
  have := List.pairwise_iff_getElem.1 (levs_less t k) i (i + 1) h1 h2 (by omega)
  rwa [e1, e2] at this

/-- The words of a length that begin so. -/
def tl (t k : Nat) (b : List Int) : List (List Int) := (lev t k).map (b ++ ·)
theorem tl_zero (t : Nat) (b : List Int) : tl t 0 b = [b] := by simp [tl, lev]
theorem tl_succ (t k : Nat) (b : List Int) : tl t (k + 1) b = (List.range t).flatMap fun i => tl t k (b ++ [((i + 1 : Nat) : Int)]) := by
  unfold tl
  rw [lev_cons, List.map_flatMap]
  congr 1
  funext i
  rw [List.map_map]
  congr 1
  funext w
  simp
theorem tl_mem {t k : Nat} {b v : List Int} : v ∈ tl t k b ↔ ∃ z, v = b ++ z ∧ z.length = k ∧ ∀ s ∈ z, 1 ≤ s ∧ s ≤ (t : Int) := by
  unfold tl
  rw [List.mem_map]
  constructor
  · rintro ⟨z, hz, rfl⟩
    exact ⟨z, rfl, lev_word.1 hz⟩
  · rintro ⟨z, rfl, hz⟩
    exact ⟨z, lev_word.2 hz, rfl⟩
/-- What is put behind a list, until there are so many. -/
def put (most : Nat) (l A : List (List Int)) : List (List Int) := l ++ A.take (most - l.length)
theorem put_full {most : Nat} {l A : List (List Int)} (h : most ≤ l.length) : put most l A = l := by
  unfold put; rw [show most - l.length = 0 by omega]; simp
theorem put_nil (most : Nat) (l : List (List Int)) : put most l [] = l := by simp [put]
theorem put_put (most : Nat) (l A B : List (List Int)) : put most (put most l A) B = put most l (A ++ B) := by
  unfold put
  rw [List.append_assoc, List.take_append, List.length_append, List.length_take]
  congr 2
  congr 1
  omega
theorem put_one {most : Nat} {l : List (List Int)} (b : List Int) (h : l.length < most) : put most l [b] = l ++ [b] := by
  unfold put
  obtain ⟨m, hm⟩ : ∃ m, most - l.length = m + 1 := ⟨most - l.length - 1, by omega⟩
  rw [hm]; simp
/-- The words among those. -/
def wds (P : List Int → Bool) (t k : Nat) (b : List Int) : List (List Int) := (tl t k b).filter P
theorem wds_none {P : List Int → Bool} {t k : Nat} {b : List Int} (h : ∀ v ∈ tl t k b, P v = false) : wds P t k b = [] := by
  unfold wds
  rw [List.filter_eq_nil_iff]
  intro v hv
  rw [h v hv]; simp
theorem wds_zero {P : List Int → Bool} {t : Nat} {b : List Int} (h : P b = true) : wds P t 0 b = [b] := by
  unfold wds; rw [tl_zero]; simp [h]
/-- Those whose next one is among the first m. -/
def wpart (P : List Int → Bool) (t k : Nat) (b : List Int) (m : Nat) : List (List Int) := (List.range m).flatMap fun i => wds P t k (b ++ [((i + 1 : Nat) : Int)])
theorem wpart_zero (P : List Int → Bool) (t k : Nat) (b : List Int) : wpart P t k b 0 = [] := rfl
theorem wpart_succ (P : List Int → Bool) (t k : Nat) (b : List Int) (m : Nat) : wpart P t k b (m + 1) = wpart P t k b m ++ wds P t k (b ++ [((m + 1 : Nat) : Int)]) := by
  unfold wpart
  rw [List.range_succ, List.flatMap_append, List.flatMap_singleton]
theorem wpart_full (P : List Int → Bool) (t k : Nat) (b : List Int) : wpart P t k b t = wds P t (k + 1) b := by
  unfold wpart wds
  rw [tl_succ, List.filter_flatMap]
/-- The words of the first lengths. -/
def wlen (P : List Int → Bool) (t : Nat) : Nat → List (List Int)
  | 0 => []
  | n + 1 => wlen P t n ++ wds P t n []
theorem tl_nil (t k : Nat) : tl t k [] = lev t k := by simp [tl]
theorem wlen_levs (P : List Int → Bool) (t : Nat) : ∀ n, wlen P t (n + 1) = (levs t n).filter P
  | 0 => by
    show [] ++ wds P t 0 [] = _
    unfold wds; rw [tl_nil]; rfl
  | n + 1 => by
    show wlen P t (n + 1) ++ wds P t (n + 1) [] = (levs t n ++ lev t (n + 1)).filter P
    rw [wlen_levs P t n, List.filter_append]
    unfold wds; rw [tl_nil]
end Go.Proofs.YtejjdfmobiegdaaDoor.Al
