/- The least words of a grammar, and what they cost, in plain words. No program here. -/
import Derived.Test.YtejjdfmobiegdaaDoorSpec
namespace Go.Proofs.YtejjdfmobiegdaaDoor.Wd
open Doc

/-- Ahead by the first place where they differ. -/
def lexI : List Int → List Int → Bool
  | x :: a, y :: b => if x = y then lexI a b else decide (x < y)
  | _, _ => false
/-- Shorter, or as long and ahead. -/
def lessI (a b : List Int) : Bool := if a.length = b.length then lexI a b else decide (a.length < b.length)
/-- What slices.Compare tells. -/
def cmpI : List Int → List Int → Int
  | [], [] => 0
  | [], _ :: _ => -1
  | _ :: _, [] => 1
  | x :: a, y :: b => if x < y then -1 else if y < x then 1 else cmpI a b

theorem cmp_lex : ∀ a b : List Int, a.length = b.length → (cmpI a b < 0 ↔ lexI a b = true)
  | [], [], _ => by simp [cmpI, lexI]
  | [], _ :: _, h => by simp at h
  | _ :: _, [], h => by simp at h
  | x :: a, y :: b, h => by
    have ih := cmp_lex a b (by simpa using h)
    simp only [cmpI, lexI]
    by_cases h1 : x < y
    · rw [if_pos h1, if_neg (by omega)]; simp [h1]
    · rw [if_neg h1]
      by_cases h2 : y < x
      · rw [if_pos h2, if_neg (by omega)]; simp; omega
      · rw [if_neg h2, if_pos (by omega)]; exact ih

theorem lex_irrefl : ∀ a, lexI a a = false
  | [] => rfl
  | x :: a => by simp [lexI, lex_irrefl a]
theorem less_irrefl (a : List Int) : lessI a a = false := by simp [lessI, lex_irrefl]
theorem lex_trans : ∀ a b c : List Int, lexI a b = true → lexI b c = true → lexI a c = true
  | [], _, _, h, _ => by simp [lexI] at h
  | _ :: _, [], _, h, _ => by simp [lexI] at h
  | _ :: _, _ :: _, [], _, h => by simp [lexI] at h
  | x :: a, y :: b, z :: c, h1, h2 => by
    have ih := lex_trans a b c
    simp only [lexI] at h1 h2 ⊢
    by_cases e1 : x = y
    · subst e1
      rw [if_pos rfl] at h1
      by_cases e2 : x = z
      · subst e2; rw [if_pos rfl] at h2 ⊢; exact ih h1 h2
      · rw [if_neg e2] at h2 ⊢; exact h2
    · rw [if_neg e1] at h1
      simp only [decide_eq_true_eq] at h1
      by_cases e2 : y = z
      · subst e2; rw [if_neg e1]; simpa using h1
      · rw [if_neg e2] at h2
        simp only [decide_eq_true_eq] at h2
        rw [if_neg (by omega)]; simp; omega
theorem lex_total : ∀ a b : List Int, a.length = b.length → lexI a b = true ∨ lexI b a = true ∨ a = b
  | [], [], _ => .inr (.inr rfl)
  | [], _ :: _, h => by simp at h
  | _ :: _, [], h => by simp at h
  | x :: a, y :: b, h => by
    simp only [lexI]
    by_cases e : x = y
    · subst e
      rw [if_pos rfl, if_pos rfl]
      rcases lex_total a b (by simpa using h) with h | h | h
      · exact .inl h
      · exact .inr (.inl h)
      · exact .inr (.inr (by rw [h]))
    · rw [if_neg e, if_neg (Ne.symm e)]
      simp only [decide_eq_true_eq]
      rcases Int.lt_trichotomy x y with h | h | h
      · exact .inl h
      · exact absurd h e
      · exact .inr (.inl h)
theorem less_iff (a b : List Int) : lessI a b = true ↔ a.length < b.length ∨ (a.length = b.length ∧ lexI a b = true) := by
  unfold lessI
  split
  · rename_i h; simp only [h, Nat.lt_irrefl, false_or, true_and]
  · rename_i h; simp only [decide_eq_true_eq, h, false_and, or_false]
theorem less_trans {a b c : List Int} (h1 : lessI a b = true) (h2 : lessI b c = true) : lessI a c = true := by
  rw [less_iff] at *
  rcases h1 with h1 | ⟨h1, h1'⟩ <;> rcases h2 with h2 | ⟨h2, h2'⟩
  · exact .inl (by omega)
  · exact .inl (by omega)
  · exact .inl (by omega)
  · exact .inr ⟨by omega, lex_trans _ _ _ h1' h2'⟩
theorem less_total (a b : List Int) : lessI a b = true ∨ lessI b a = true ∨ a = b := by
  rw [less_iff, less_iff]
  rcases Nat.lt_trichotomy a.length b.length with h | h | h
  · exact .inl (.inl h)
  · rcases lex_total a b h with h' | h' | h'
    · exact .inl (.inr ⟨h, h'⟩)
    · exact .inr (.inl (.inr ⟨h.symm, h'⟩))
    · exact .inr (.inr h')
  · exact .inr (.inl (.inl h))
theorem less_asymm {a b : List Int} (h : lessI a b = true) : lessI b a = false := by
  cases h' : lessI b a with
  | false => rfl
  | true => have := less_trans h h'; rw [less_irrefl] at this; cases this
theorem lex_append_left (c : List Int) (a b : List Int) : lexI (c ++ a) (c ++ b) = lexI a b := by
  induction c with
  | nil => rfl
  | cons x c ih => simp [lexI, ih]
theorem lex_append : ∀ (a b c d : List Int), a.length = b.length → lexI (a ++ c) (b ++ d) = (lexI a b || (decide (a = b) && lexI c d))
  | [], [], _, _, _ => by simp [lexI]
  | [], _ :: _, _, _, h => by simp at h
  | _ :: _, [], _, _, h => by simp at h
  | x :: a, y :: b, c, d, h => by
    have ih := lex_append a b c d (by simpa using h)
    simp only [List.cons_append, lexI]
    by_cases e : x = y
    · subst e; rw [if_pos rfl, if_pos rfl, ih]; simp
    · rw [if_neg e, if_neg e]; simp [e]
theorem less_append_left (c a b : List Int) : lessI (c ++ a) (c ++ b) = lessI a b := by
  unfold lessI
  rw [lex_append_left]
  simp only [List.length_append, Nat.add_left_cancel_iff, Nat.add_lt_add_iff_left]
theorem less_append_right (c a b : List Int) : lessI (a ++ c) (b ++ c) = lessI a b := by
  unfold lessI
  simp only [List.length_append, Nat.add_right_cancel_iff, Nat.add_lt_add_iff_right]
  by_cases h : a.length = b.length
  · rw [if_pos h, if_pos h, lex_append _ _ _ _ h, lex_irrefl]; simp
  · rw [if_neg h, if_neg h]

/-- Not behind. -/
def leI (a b : List Int) : Prop := lessI b a = false
theorem le_refl (a : List Int) : leI a a := less_irrefl a
theorem le_cases {a b : List Int} (h : leI a b) : lessI a b = true ∨ a = b := by
  rcases less_total a b with h' | h' | h'
  · exact .inl h'
  · rw [h] at h'; cases h'
  · exact .inr h'
theorem le_trans {a b c : List Int} (h1 : leI a b) (h2 : leI b c) : leI a c := by
  rcases le_cases h1 with h1 | rfl
  · rcases le_cases h2 with h2 | rfl
    · exact less_asymm (less_trans h1 h2)
    · exact less_asymm h1
  · exact h2
theorem le_len {a b : List Int} (h : leI a b) : a.length ≤ b.length := by
  rcases le_cases h with h | rfl
  · rw [less_iff] at h; omega
  · exact Nat.le_refl _
theorem le_of_len {a b : List Int} (h : a.length < b.length) : leI a b := less_asymm ((less_iff _ _).2 (.inl h))
theorem le_append {a b c d : List Int} (h1 : leI a b) (h2 : leI c d) : leI (a ++ c) (b ++ d) := by
  have l1 := le_len h1
  have l2 := le_len h2
  by_cases hl : a.length = b.length ∧ c.length = d.length
  · refine le_trans (b := b ++ c) ?_ ?_
    · unfold leI; rw [less_append_right]; exact h1
    · unfold leI; rw [less_append_left]; exact h2
  · exact le_of_len (by simp; omega)
theorem antisymm {a b : List Int} (h1 : leI a b) (h2 : leI b a) : a = b := by
  rcases le_cases h1 with h | h
  · rw [h2] at h; cases h
  · exact h

abbrev Kn := List (Option (List Int))
def known (L : Kn) (k : Nat) : Option (List Int) := (L[k]?).join
def rowStep (L : Kn) (a : Option (List Int)) (s : Int) : Option (List Int) :=
  match a with
  | none => none
  | some w => if s < 100 then some (w ++ [s]) else match known L (s - 100).toNat with
    | none => none
    | some p => some (w ++ p)
/-- The least word of a row. -/
def rowW (L : Kn) (r : List Int) : Option (List Int) := r.foldl (rowStep L) (some [])
def nextStep (L : Kn) (a : Option (Nat × List Int)) (p : Int × List Int) : Option (Nat × List Int) :=
  match known L (p.1 - 100).toNat with
  | some _ => a
  | none => match rowW L p.2 with
    | none => a
    | some w => match a with
      | none => some ((p.1 - 100).toNat, w)
      | some (k, v) => if lessI w v = true then some ((p.1 - 100).toNat, w) else some (k, v)
def nextF (ps : List (Int × List Int)) (L : Kn) : Option (Nat × List Int) := ps.foldl (nextStep L) none
def setK (L : Kn) : Option (Nat × List Int) → Kn
  | none => L
  | some (k, w) => L.set k (some w)
def settleF (ps : List (Int × List Int)) (L : Kn) : Kn := setK L (nextF ps L)
def iterW (ps : List (Int × List Int)) (L : Kn) : Nat → Kn
  | 0 => L
  | n + 1 => settleF ps (iterW ps L n)
def none_ (n : Nat) : Kn := List.replicate n none
/-- The least words of a grammar. -/
def leastF (g : Gr) : Kn := iterW g.prods (none_ g.nons.length) g.nons.length

theorem row_none (L : Kn) : ∀ r : List Int, r.foldl (rowStep L) none = none
  | [] => rfl
  | _ :: r => row_none L r
theorem rowW_snoc {L : Kn} {r : List Int} {j : Nat} {s : Int} (hs : r[j]? = some s) : rowW L (r.take (j + 1)) = rowStep L (rowW L (r.take j)) s := by
  unfold rowW; rw [List.take_add_one, hs]; simp
theorem rowW_stop {L : Kn} {r : List Int} {j : Nat} (h : rowW L (r.take j) = none) : rowW L r = none := by
  have e : r = r.take j ++ r.drop j := (List.take_append_drop j r).symm
  rw [e]; unfold rowW at h ⊢
  rw [List.foldl_append, h, row_none]
theorem next_snoc {L : Kn} {ps : List (Int × List Int)} {j : Nat} {p : Int × List Int} (hp : ps[j]? = some p) : nextF (ps.take (j + 1)) L = nextStep L (nextF (ps.take j) L) p := by
  unfold nextF; rw [List.take_add_one, hp]; simp

/-- How long the known ones are. -/
def Short (L : Kn) (B : Nat) : Prop := ∀ k w, known L k = some w → w.length ≤ B
theorem row_short {L : Kn} {B : Nat} (hB : 1 ≤ B) (h : Short L B) : ∀ (r : List Int) (a w : List Int), r.foldl (rowStep L) (some a) = some w → w.length ≤ a.length + r.length * B
  | [], a, w, e => by cases e; simp
  | s :: r, a, w, e => by
    rw [List.foldl_cons, show rowStep L (some a) s = (if s < 100 then some (a ++ [s]) else match known L (s - 100).toNat with | none => none | some p => some (a ++ p)) from rfl] at e
    by_cases hs : s < 100
    · rw [if_pos hs] at e
      have := row_short hB h r _ _ e
      simp only [List.length_append, List.length_cons, List.length_nil] at this ⊢
      rw [Nat.add_mul]; omega
    · rw [if_neg hs] at e
      cases hk : known L (s - 100).toNat with
      | none => rw [hk] at e; have e : r.foldl (rowStep L) none = some w := e; rw [row_none] at e; cases e
      | some p =>
        rw [hk] at e
        have e : r.foldl (rowStep L) (some (a ++ p)) = some w := e
        have := row_short hB h r _ _ e
        have := h _ _ hk
        simp only [List.length_append, List.length_cons] at *
        rw [Nat.add_mul]; omega
theorem rowW_short {L : Kn} {B : Nat} (hB : 1 ≤ B) (h : Short L B) {r w : List Int} (e : rowW L r = some w) (hr : r.length ≤ 6) : w.length ≤ 6 * B := by
  have := row_short hB h r [] w e
  have h2 : r.length * B ≤ 6 * B := Nat.mul_le_mul_right _ hr
  simp at this; omega

/-- What next is: the least that can be made of those known, of one that is not. -/
theorem next_is (L : Kn) : ∀ (ps : List (Int × List Int)) (a : Option (Nat × List Int)),
    match ps.foldl (nextStep L) a with
    | none => a = none ∧ ∀ p ∈ ps, known L (p.1 - 100).toNat = none → rowW L p.2 = none
    | some (k, w) => (a = some (k, w) ∨ ∃ p ∈ ps, (p.1 - 100).toNat = k ∧ known L k = none ∧ rowW L p.2 = some w) ∧ (∀ p ∈ ps, known L (p.1 - 100).toNat = none → ∀ v, rowW L p.2 = some v → leI w v) ∧ ∀ k' v, a = some (k', v) → leI w v
  | [], a => by
    cases a with
    | none => exact ⟨rfl, fun p hp => by cases hp⟩
    | some kw =>
      obtain ⟨k, w⟩ := kw
      refine ⟨.inl rfl, fun p hp => (by cases hp), ?_⟩
      rintro k' v h; cases h; exact le_refl _
  | p :: ps, a => by
    rw [List.foldl_cons]
    have ih := next_is L ps (nextStep L a p)
    cases hk : known L (p.1 - 100).toNat with
    | some u =>
      have e : nextStep L a p = a := by unfold nextStep; rw [hk]
      rw [e] at ih ⊢
      cases hr : ps.foldl (nextStep L) a with
      | none =>
        rw [hr] at ih
        refine ⟨ih.1, fun q hq hqk => ?_⟩
        rcases List.mem_cons.1 hq with rfl | hq
        · rw [hk] at hqk; cases hqk
        · exact ih.2 q hq hqk
      | some kw =>
        obtain ⟨k, w⟩ := kw
        rw [hr] at ih
        refine ⟨?_, fun q hq hqk => ?_, ih.2.2⟩
        · rcases ih.1 with h | ⟨q, hq, h⟩
          · exact .inl h
          · exact .inr ⟨q, List.mem_cons_of_mem _ hq, h⟩
        · rcases List.mem_cons.1 hq with rfl | hq
          · rw [hk] at hqk; cases hqk
          · exact ih.2.1 q hq hqk
    | none =>
      cases hw : rowW L p.2 with
      | none =>
        have e : nextStep L a p = a := by unfold nextStep; rw [hk]; simp only []; rw [hw]
        rw [e] at ih ⊢
        cases hr : ps.foldl (nextStep L) a with
        | none =>
          rw [hr] at ih
          refine ⟨ih.1, fun q hq hqk => ?_⟩
          rcases List.mem_cons.1 hq with rfl | hq
          · exact hw
          · exact ih.2 q hq hqk
        | some kw =>
          obtain ⟨k, w⟩ := kw
          rw [hr] at ih
          refine ⟨?_, fun q hq hqk v hv => ?_, ih.2.2⟩
          · rcases ih.1 with h | ⟨q, hq, h⟩
            · exact .inl h
            · exact .inr ⟨q, List.mem_cons_of_mem _ hq, h⟩
          · rcases List.mem_cons.1 hq with rfl | hq
            · rw [hw] at hv; cases hv
            · exact ih.2.1 q hq hqk v hv
      | some w0 =>
        -- what stands behind this production is not behind it, and not behind what stood ahead
        have key : ∃ k1 w1, nextStep L a p = some (k1, w1) ∧ (a = some (k1, w1) ∨ ((p.1 - 100).toNat = k1 ∧ w0 = w1)) ∧ leI w1 w0 ∧ ∀ k' v, a = some (k', v) → leI w1 v := by
          unfold nextStep
          rw [hk]; simp only []; rw [hw]
          cases a with
          | none => exact ⟨_, _, rfl, .inr ⟨rfl, rfl⟩, le_refl _, fun _ _ h => by cases h⟩
          | some kv =>
            obtain ⟨k, v⟩ := kv
            simp only []
            by_cases hl : lessI w0 v = true
            · rw [if_pos hl]
              refine ⟨_, _, rfl, .inr ⟨rfl, rfl⟩, le_refl _, ?_⟩
              rintro k' v' h; cases h; exact less_asymm hl
            · rw [if_neg hl]
              refine ⟨_, _, rfl, .inl rfl, by unfold leI; simpa using hl, ?_⟩
              rintro k' v' h; cases h; exact le_refl _
        obtain ⟨k1, w1, e, h1, h2, h3⟩ := key
        rw [e] at ih ⊢
        cases hr : ps.foldl (nextStep L) (some (k1, w1)) with
        | none => rw [hr] at ih; exact absurd ih.1 (by simp)
        | some kw =>
          obtain ⟨k, w⟩ := kw
          rw [hr] at ih
          have hl1 : leI w w1 := ih.2.2 _ _ rfl
          refine ⟨?_, fun q hq hqk v hv => ?_, fun k' v h => le_trans hl1 (h3 k' v h)⟩
          · rcases ih.1 with h | ⟨q, hq, h⟩
            · cases h
              rcases h1 with h1 | ⟨h1, h1'⟩
              · exact .inl h1
              · exact .inr ⟨p, List.mem_cons_self, h1, by rw [← h1]; exact hk, by rw [hw, h1']⟩
            · exact .inr ⟨q, List.mem_cons_of_mem _ hq, h⟩
          · rcases List.mem_cons.1 hq with rfl | hq
            · rw [hw] at hv; cases hv; exact le_trans hl1 h2
            · exact ih.2.1 q hq hqk v hv

theorem nextF_none {ps : List (Int × List Int)} {L : Kn} (h : nextF ps L = none) : ∀ p ∈ ps, known L (p.1 - 100).toNat = none → rowW L p.2 = none := by
  have := next_is L ps none
  unfold nextF at h
  rw [h] at this
  exact this.2
theorem nextF_some {ps : List (Int × List Int)} {L : Kn} {k : Nat} {w : List Int} (h : nextF ps L = some (k, w)) : (∃ p ∈ ps, (p.1 - 100).toNat = k ∧ known L k = none ∧ rowW L p.2 = some w) ∧ ∀ p ∈ ps, known L (p.1 - 100).toNat = none → ∀ v, rowW L p.2 = some v → leI w v := by
  have := next_is L ps none
  unfold nextF at h
  rw [h] at this
  rcases this with ⟨h1 | h1, h2, _⟩
  · cases h1
  · exact ⟨h1, h2⟩

/-- How many are known. -/
def howMany (L : Kn) : Nat := L.countP (·.isSome)
theorem known_set {L : Kn} {k : Nat} {w : List Int} (hk : k < L.length) (j : Nat) : known (L.set k (some w)) j = if j = k then some w else known L j := by
  unfold known
  rw [List.getElem?_set]
  by_cases h : k = j
  · subst h; rw [if_pos rfl, if_pos hk, if_pos rfl]; rfl
  · rw [if_neg h, if_neg (Ne.symm h)]
theorem set_count : ∀ {L : Kn} {k : Nat} {w : List Int}, k < L.length → known L k = none → howMany (L.set k (some w)) = howMany L + 1
  | [], _, _, h, _ => by simp at h
  | x :: L, 0, w, _, hn => by
    have : x = none := by simpa [known] using hn
    subst this
    simp [howMany]
  | x :: L, k + 1, w, h, hn => by
    have ih := set_count (L := L) (k := k) (w := w) (by simpa using h) (by simpa [known] using hn)
    simp only [List.set_cons_succ]
    unfold howMany at *
    rw [List.countP_cons, List.countP_cons, ih]; omega
theorem many_le (L : Kn) : howMany L ≤ L.length := List.countP_le_length
theorem many_lt : ∀ {L : Kn} {k : Nat}, k < L.length → known L k = none → howMany L < L.length
  | [], _, h, _ => by simp at h
  | x :: L, 0, _, hn => by
    have : x = none := by simpa [known] using hn
    subst this
    have := many_le L
    unfold howMany at *
    rw [List.countP_cons]; simp; omega
  | x :: L, k + 1, h, hn => by
    have ih := many_lt (L := L) (k := k) (by simpa using h) (by simpa [known] using hn)
    unfold howMany at *
    rw [List.countP_cons, List.length_cons]; split <;> omega
theorem iterW_len (ps : List (Int × List Int)) (L : Kn) : ∀ n, (iterW ps L n).length = L.length
  | 0 => rfl
  | n + 1 => by
    show (setK (iterW ps L n) (nextF ps (iterW ps L n))).length = _
    cases nextF ps (iterW ps L n) with
    | none => exact iterW_len ps L n
    | some kw => simp [setK, iterW_len ps L n]
theorem iterW_stop {ps : List (Int × List Int)} {L : Kn} {k : Nat} (h : nextF ps (iterW ps L k) = none) : ∀ n, k ≤ n → iterW ps L n = iterW ps L k := by
  intro n hn
  induction n with
  | zero => obtain rfl : k = 0 := by omega
            rfl
  | succ n ih =>
    by_cases hk : k = n + 1
    · rw [hk]
    · have := ih (by omega)
      show setK (iterW ps L n) (nextF ps (iterW ps L n)) = _
      rw [this, h]; rfl
/-- Every left is a nonterminal's place. -/
def LeftsIn (ps : List (Int × List Int)) (n : Nat) : Prop := ∀ p ∈ ps, 100 ≤ p.1 ∧ p.1 < 100 + (n : Int)
theorem next_in {ps : List (Int × List Int)} {L : Kn} {k : Nat} {w : List Int} (hl : LeftsIn ps L.length) (h : nextF ps L = some (k, w)) : k < L.length ∧ known L k = none := by
  obtain ⟨⟨p, hp, e, hk, _⟩, _⟩ := nextF_some h
  have := hl p hp
  exact ⟨by omega, hk⟩
theorem many_iter {ps : List (Int × List Int)} {n : Nat} (hl : LeftsIn ps n) : ∀ k, (∀ j, j < k → nextF ps (iterW ps (none_ n) j) ≠ none) → howMany (iterW ps (none_ n) k) = k
  | 0, _ => by
    show howMany (none_ n) = 0
    unfold howMany none_
    rw [List.countP_eq_zero]
    intro a ha
    rw [List.eq_of_mem_replicate ha]; simp
  | k + 1, h => by
    have ih := many_iter hl k fun j hj => h j (by omega)
    have hlen : (iterW ps (none_ n) k).length = n := by rw [iterW_len]; simp [none_]
    cases hn : nextF ps (iterW ps (none_ n) k) with
    | none => exact absurd hn (h k (by omega))
    | some kw =>
      obtain ⟨j, w⟩ := kw
      have hi := next_in (by rw [hlen]; exact hl) hn
      show howMany (setK (iterW ps (none_ n) k) (nextF ps (iterW ps (none_ n) k))) = _
      rw [hn]
      show howMany ((iterW ps (none_ n) k).set j (some w)) = _
      rw [set_count hi.1 hi.2, ih]
/-- The rounds' end is the least words. -/
theorem least_end {g : Gr} (hl : LeftsIn g.prods g.nons.length) {k : Nat} (hk : ∀ j, j < k → nextF g.prods (iterW g.prods (none_ g.nons.length) j) ≠ none) (h : nextF g.prods (iterW g.prods (none_ g.nons.length) k) = none) : iterW g.prods (none_ g.nons.length) k = leastF g ∧ k ≤ g.nons.length := by
  have hm := many_iter hl k hk
  have := many_le (iterW g.prods (none_ g.nons.length) k)
  rw [hm, iterW_len] at this
  have : k ≤ g.nons.length := by simpa [none_] using this
  exact ⟨(iterW_stop h _ this).symm, this⟩
theorem short_iter {ps : List (Int × List Int)} {n : Nat} (hl : LeftsIn ps n) (hr : ∀ p ∈ ps, p.2.length ≤ 6) : ∀ k, Short (iterW ps (none_ n) k) (6 ^ k)
  | 0 => fun k w h => by
    have h : known (none_ n) k = some w := h
    unfold known none_ at h
    rw [List.getElem?_replicate] at h
    split at h <;> simp at h
  | k + 1 => by
    have ih := short_iter hl hr k
    have hlen : (iterW ps (none_ n) k).length = n := by rw [iterW_len]; simp [none_]
    have h1 : 1 ≤ 6 ^ k := Nat.pow_pos (by decide)
    intro j w h
    have h : known (setK (iterW ps (none_ n) k) (nextF ps (iterW ps (none_ n) k))) j = some w := h
    cases hn : nextF ps (iterW ps (none_ n) k) with
    | none =>
      rw [hn] at h
      have := ih j w h
      rw [Nat.pow_succ]; omega
    | some kw =>
      obtain ⟨i, v⟩ := kw
      rw [hn] at h
      have hi := next_in (by rw [hlen]; exact hl) hn
      have h : known ((iterW ps (none_ n) k).set i (some v)) j = some w := h
      rw [known_set hi.1] at h
      split at h
      · cases h
        obtain ⟨⟨p, hp, _, _, hw⟩, _⟩ := nextF_some hn
        have := rowW_short h1 ih hw (hr p hp)
        rw [Nat.pow_succ]; omega
      · have := ih j w h
        rw [Nat.pow_succ]; omega

end Go.Proofs.YtejjdfmobiegdaaDoor.Wd
