/- Grammars by small numbers, in plain words. No program here. -/
import Derived.Test.YtdnlbmdmaiacaaaRead
import Derived.Test.YtdnlbmdmaiacaaaCheck
namespace Go.Proofs.Ytdnlbmdmaiacaaa
open Doc

/-- A number as a symbol of so many terminals and nonterminals. -/
def symP (t n : Nat) (v : Int) : Int := if v % ((t + n : Nat) : Int) < t then v % ((t + n : Nat) : Int) + 1 else 100 + v % ((t + n : Nat) : Int) - t
def rowP (t n : Nat) (row : List Int) : List Int := (row.take 3).map (symP t n)
/-- A production of numbers, if it is not there. -/
def putF (g : Gr) (left : Int) (row : List Int) : Gr :=
  if (left, rowP g.terms.length g.nons.length row) ∈ g.prods then g else { g with prods := g.prods ++ [(left, rowP g.terms.length g.nons.length row)] }
def baseP (g : Gr) : Nat → Gr
  | 0 => g
  | i + 1 => putF (baseP g i) ((100 + i : Nat) : Int) [(i : Int)]
def leftP (i : Nat) (row : List Int) (n : Nat) : Int := 100 + (match row with | [] => (i : Int) | x :: _ => x.tdiv 16) % (n : Int)
def rowsP (g : Gr) (rows : List (List Int)) : Nat → Gr
  | 0 => g
  | i + 1 => match rows[i]? with
    | none => rowsP g rows i
    | some row => putF (rowsP g rows i) (leftP i row g.nons.length) row
def anyT (terms : Int) : Nat := 1 + (terms % 3).toNat
def any0 (terms nons : Int) : Gr := ⟨[[97], [98], [99]].take (anyT terms), [[83], [65], [66]].take (anyT nons), []⟩
def anyF (terms nons : Int) (rows : List (List Int)) : Gr := rowsP (baseP (any0 terms nons) (anyT nons)) rows (min rows.length 5)

theorem symP_ok {t n : Nat} (h : 0 < t + n) (ht : t ≤ 8) (v : Int) : (1 ≤ symP t n v ∧ symP t n v ≤ t) ∨ (100 ≤ symP t n v ∧ symP t n v < 100 + n) := by
  have h1 := Int.emod_nonneg v (show ((t + n : Nat) : Int) ≠ 0 by omega)
  have h2 := Int.emod_lt_of_pos v (show (0 : Int) < ((t + n : Nat) : Int) by omega)
  unfold symP
  split <;> omega

/-- What the steps keep. -/
structure AnyOk (t n : Nat) (g : Gr) : Prop where
  te : g.terms = [[97], [98], [99]].take t
  no : g.nons = [[83], [65], [66]].take n
  pv : ∀ p ∈ g.prods, (100 ≤ p.1 ∧ p.1 < 100 + (n : Int)) ∧ p.2.length ≤ 3 ∧ ∀ s ∈ p.2, symOk t n s
  pn : g.prods.Nodup

theorem putF_ok {t n : Nat} {g : Gr} (h : AnyOk t n g) (ht : 1 ≤ t ∧ t ≤ 3) (hn : 1 ≤ n ∧ n ≤ 3) {left : Int} (hl : 100 ≤ left ∧ left < 100 + (n : Int)) (row : List Int) : AnyOk t n (putF g left row) := by
  have e1 : g.terms.length = t := by rw [h.te, List.length_take]; simp; omega
  have e2 : g.nons.length = n := by rw [h.no, List.length_take]; simp; omega
  unfold putF
  split
  · exact h
  · rename_i hm
    rw [e1, e2] at hm ⊢
    refine ⟨h.te, h.no, ?_, ?_⟩
    · intro p hp
      rcases List.mem_append.1 hp with hp | hp
      · exact h.pv p hp
      · rw [List.mem_singleton.1 hp]
        refine ⟨hl, by simp [rowP]; omega, ?_⟩
        intro s hs
        obtain ⟨v, _, rfl⟩ := List.mem_map.1 hs
        have := symP_ok (t := t) (n := n) (by omega) (by omega) v
        unfold symOk
        omega
    · rw [List.nodup_append]
      refine ⟨h.pn, by simp, ?_⟩
      intro a ha b hb
      rw [List.mem_singleton.1 hb]
      rintro rfl
      exact hm ha
theorem putF_len (g : Gr) (left : Int) (row : List Int) : (putF g left row).prods.length ≤ g.prods.length + 1 ∧ g.prods.length ≤ (putF g left row).prods.length := by
  unfold putF; split <;> simp
theorem putF_mem (g : Gr) (left : Int) (row : List Int) : (∀ p ∈ g.prods, p ∈ (putF g left row).prods) ∧ (left, rowP g.terms.length g.nons.length row) ∈ (putF g left row).prods := by
  unfold putF
  split
  · rename_i h; exact ⟨fun p hp => hp, h⟩
  · simp; intro a b h; exact .inl h

theorem baseP_ok {t n : Nat} {g : Gr} (h : AnyOk t n g) (ht : 1 ≤ t ∧ t ≤ 3) (hn : 1 ≤ n ∧ n ≤ 3) : ∀ i, i ≤ n → AnyOk t n (baseP g i) ∧ (baseP g i).prods.length ≤ g.prods.length + i ∧ ∀ j, j < i → ∃ p ∈ (baseP g i).prods, p.1 = ((100 + j : Nat) : Int)
  | 0, _ => ⟨h, by simp [baseP], by intro j hj; omega⟩
  | i + 1, hi => by
    obtain ⟨h1, h2, h3⟩ := baseP_ok h ht hn i (by omega)
    refine ⟨putF_ok h1 ht hn (by omega) _, ?_, ?_⟩
    · have := (putF_len (baseP g i) ((100 + i : Nat) : Int) [(i : Int)]).1
      show (putF _ _ _).prods.length ≤ _
      omega
    · intro j hj
      have hm := putF_mem (baseP g i) ((100 + i : Nat) : Int) [(i : Int)]
      by_cases hji : j = i
      · subst hji; exact ⟨_, hm.2, rfl⟩
      · obtain ⟨p, hp, e⟩ := h3 j (by omega)
        exact ⟨p, hm.1 p hp, e⟩
theorem leftP_ok (i : Nat) (row : List Int) {n : Nat} (hn : 1 ≤ n) : 100 ≤ leftP i row n ∧ leftP i row n < 100 + (n : Int) := by
  unfold leftP
  generalize (match row with | [] => (i : Int) | x :: _ => x.tdiv 16) = v
  have h1 := Int.emod_nonneg v (show (n : Int) ≠ 0 by omega)
  have h2 := Int.emod_lt_of_pos v (show (0 : Int) < n by omega)
  omega
theorem rowsP_ok {t n : Nat} {g : Gr} (h : AnyOk t n g) (ht : 1 ≤ t ∧ t ≤ 3) (hn : 1 ≤ n ∧ n ≤ 3) (rows : List (List Int)) : ∀ i, AnyOk t n (rowsP g rows i) ∧ (rowsP g rows i).prods.length ≤ g.prods.length + i ∧ ∀ p ∈ g.prods, p ∈ (rowsP g rows i).prods
  | 0 => ⟨h, by simp [rowsP], fun p hp => hp⟩
  | i + 1 => by
    obtain ⟨h1, h2, h3⟩ := rowsP_ok h ht hn rows i
    have e2 : g.nons.length = n := by rw [h.no, List.length_take]; simp; omega
    simp only [rowsP]
    cases rows[i]? with
    | none => simp only; exact ⟨h1, by omega, h3⟩
    | some row =>
      simp only
      rw [e2]
      have hl := putF_len (rowsP g rows i) (leftP i row n) row
      exact ⟨putF_ok h1 ht hn (leftP_ok i row hn.1) _, by omega, fun p hp => (putF_mem _ _ _).1 p (h3 p hp)⟩

theorem anyT_ok (x : Int) : 1 ≤ anyT x ∧ anyT x ≤ 3 := by
  unfold anyT
  have h1 := Int.emod_nonneg x (show (3 : Int) ≠ 0 by omega)
  have h2 := Int.emod_lt_of_pos x (show (0 : Int) < 3 by omega)
  omega
theorem anyF_ok (terms nons : Int) (rows : List (List Int)) : AnyOk (anyT terms) (anyT nons) (anyF terms nons rows) ∧ 1 ≤ (anyF terms nons rows).prods.length ∧ (anyF terms nons rows).prods.length ≤ 8 ∧ ∀ j, j < anyT nons → ∃ p ∈ (anyF terms nons rows).prods, p.1 = ((100 + j : Nat) : Int) := by
  have ht := anyT_ok terms
  have hn := anyT_ok nons
  have h0 : AnyOk (anyT terms) (anyT nons) (any0 terms nons) := ⟨rfl, rfl, by (intro p hp; exact absurd hp (by simp [any0])), List.nodup_nil⟩
  obtain ⟨b1, b2, b3⟩ := baseP_ok h0 ht hn (anyT nons) (Nat.le_refl _)
  obtain ⟨r1, r2, r3⟩ := rowsP_ok b1 ht hn rows (min rows.length 5)
  have hz : (any0 terms nons).prods.length = 0 := rfl
  have hex : ∀ j, j < anyT nons → ∃ p ∈ (anyF terms nons rows).prods, p.1 = ((100 + j : Nat) : Int) := fun j hj => by
    obtain ⟨p, hp, e⟩ := b3 j hj
    exact ⟨p, r3 p hp, e⟩
  refine ⟨r1, ?_, ?_, hex⟩
  · obtain ⟨p, hp, _⟩ := hex 0 (by omega)
    exact List.length_pos_of_mem hp
  · show (rowsP _ _ _).prods.length ≤ 8
    omega
theorem anyF_check (terms nons : Int) (rows : List (List Int)) : CheckG (anyF terms nons rows) := by
  obtain ⟨h, h1, h2, h3⟩ := anyF_ok terms nons rows
  have ht := anyT_ok terms
  have hn := anyT_ok nons
  have e1 : (anyF terms nons rows).terms.length = anyT terms := by rw [h.te, List.length_take]; simp; omega
  have e2 : (anyF terms nons rows).nons.length = anyT nons := by rw [h.no, List.length_take]; simp; omega
  refine ⟨by omega, by omega, by omega, by omega, h1, by omega, ?_, ?_, ?_, ?_, ?_, ?_, h.pn⟩
  · intro x hx; rw [h.te] at hx
    have := List.mem_of_mem_take hx
    simp only [List.mem_cons, List.not_mem_nil, or_false] at this
    rcases this with rfl | rfl | rfl <;> decide
  · rw [h.te]; exact List.Nodup.sublist (List.take_sublist _ _) (by decide)
  · intro x hx; rw [h.no] at hx
    have := List.mem_of_mem_take hx
    simp only [List.mem_cons, List.not_mem_nil, or_false] at this
    rcases this with rfl | rfl | rfl <;> decide
  · rw [h.no]; exact List.Nodup.sublist (List.take_sublist _ _) (by decide)
  · intro i hi; exact h3 i (by omega)
  · intro p hp
    obtain ⟨p1, p2, p3⟩ := h.pv p hp
    rw [e1, e2]
    exact ⟨p1, by omega, p3⟩

end Go.Proofs.Ytdnlbmdmaiacaaa
