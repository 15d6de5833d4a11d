/- The lines of tokens are the rules. No program here. -/
import Derived.Test.YtdnlbmdmaiacaaaRules
import Derived.Test.YtdnlbmdmaiacaaaProdF
namespace Go.Proofs.Ytdnlbmdmaiacaaa
open Doc

/-- The rule that lies at these places. -/
def ruOf (L : List Tok) (p : Nat × Nat) : Ru := ⟨(L.drop p.1).headD ⟨0, [], 0, 0⟩, (L.drop (p.1 + 2)).take (p.2 - 2)⟩

def standsAt (L : List Tok) (i st : Nat) : At → Prop
  | .start => st = i
  | .named n => st + 1 = i ∧ L[st]? = some n
  | .parts n r => i = st + 2 + r.length ∧ L[st]? = some n ∧ (L.drop (st + 2)).take r.length = r

/-- What is known of a line. -/
structure LineOk (L : List Tok) (p : Nat × Nat) : Prop where
  len : p.1 + p.2 ≤ L.length
  three : 3 ≤ p.2
  last : ∀ t, ((L.drop (p.1 + 2)).take (p.2 - 2)).getLast? = some t → t.kind = 5
  name : ∃ n, L[p.1]? = some n ∧ n.kind = 1
  body : ∀ t ∈ (L.drop (p.1 + 2)).take (p.2 - 2), t.kind ≠ 3

theorem cut_rule (L : List Tok) : ∀ (l : List Tok) (i st : Nat) (a : At), standsAt L i st a → L.drop i = l → (ruleF l a).2 = none →
    (∀ n, (a = .named n ∨ ∃ r, a = .parts n r) → n.kind = 1) → (∀ n r, a = .parts n r → ∀ t ∈ r, t.kind ≠ 3) →
    (ruleF l a).1 = (cutF l i st).map (ruOf L) ∧ ∀ p ∈ cutF l i st, LineOk L p
  | [], i, st, a, _, _, _, _, _ => by cases a <;> exact ⟨rfl, by simp [cutF]⟩
  | t :: l, i, st, .start, hs, hd, hn, hk, hb => by
    have hs : st = i := hs
    subst hs
    have hdl : L.drop (st + 1) = l := by rw [← List.drop_drop, hd]; rfl
    have hlt : st < L.length := by
      rcases Nat.lt_or_ge st L.length with h | h
      · exact h
      · rw [List.drop_of_length_le h] at hd; cases hd
    have hget : L[st]? = some t := by
      rw [List.drop_eq_getElem_cons hlt] at hd
      rw [List.getElem?_eq_getElem hlt, (List.cons.inj hd).1]
    simp only [ruleF] at hn ⊢
    simp only [cutF]
    by_cases h5 : t.kind = 5
    · rw [if_pos h5] at hn ⊢
      rw [if_pos h5, if_neg (Nat.lt_irrefl _)]
      exact cut_rule L l (st + 1) (st + 1) .start rfl hdl hn (by rintro n (h | ⟨r, h⟩) <;> cases h) (by intro n r h; cases h)
    · rw [if_neg h5] at hn ⊢
      rw [if_neg h5]
      by_cases h1 : t.kind = 1
      · rw [if_pos h1] at hn ⊢
        exact cut_rule L l (st + 1) st (.named t) ⟨rfl, hget⟩ hdl hn (by rintro n (h | ⟨r, h⟩) <;> cases h; exact h1) (by intro n r h; cases h)
      · rw [if_neg h1] at hn; cases hn
  | t :: l, i, st, .named n, hs, hd, hn, hk, hb => by
    obtain ⟨hs, hg⟩ := hs
    subst hs
    have hdl : L.drop (st + 1 + 1) = l := by rw [← List.drop_drop, hd]; rfl
    simp only [ruleF] at hn ⊢
    simp only [cutF]
    by_cases h3 : t.kind = 3
    · rw [if_pos h3] at hn ⊢
      rw [if_neg (by omega)]
      exact cut_rule L l (st + 1 + 1) st (.parts n []) ⟨rfl, hg, rfl⟩ hdl hn (by rintro m (h | ⟨r, h⟩) <;> cases h; exact hk n (.inl rfl)) (by intro m r h; cases h; simp)
    · rw [if_neg h3] at hn; cases hn
  | t :: l, i, st, .parts n r, hs, hd, hn, hk, hb => by
    obtain ⟨hs, hg, hr⟩ := hs
    have hn1 := hk n (.inr ⟨r, rfl⟩)
    have hb0 := hb n r rfl
    subst hs
    have hdl : L.drop (st + 2 + r.length + 1) = l := by rw [← List.drop_drop, hd]; rfl
    have hlt : st + 2 + r.length < L.length := by
      rcases Nat.lt_or_ge (st + 2 + r.length) L.length with h | h
      · exact h
      · rw [List.drop_of_length_le h] at hd; cases hd
    have hget : L[st + 2 + r.length]? = some t := by
      rw [List.drop_eq_getElem_cons hlt] at hd
      rw [List.getElem?_eq_getElem hlt, (List.cons.inj hd).1]
    have hr1 : (L.drop (st + 2)).take (r.length + 1) = r ++ [t] := by
      rw [List.take_add_one, hr, List.getElem?_drop, hget]; rfl
    simp only [ruleF] at hn ⊢
    simp only [cutF]
    by_cases h3 : t.kind = 3
    · rw [if_pos h3] at hn; cases hn
    · rw [if_neg h3] at hn ⊢
      by_cases h5 : t.kind = 5
      · rw [if_pos h5] at hn ⊢
        rw [if_pos h5, if_pos (by omega)]
        obtain ⟨ih1, ih2⟩ := cut_rule L l (st + 2 + r.length + 1) (st + 2 + r.length + 1) .start rfl hdl hn (by rintro m (h | ⟨r, h⟩) <;> cases h) (by intro m r h; cases h)
        have hsz : st + 2 + r.length + 1 - st - 2 = r.length + 1 := by omega
        refine ⟨?_, ?_⟩
        · rw [List.map_cons, ← ih1]
          congr 1
          unfold ruOf
          simp only [hsz, hr1]
          congr 1
          have hst : st < L.length := by omega
          rw [List.drop_eq_getElem_cons hst]
          rw [List.getElem?_eq_getElem hst] at hg
          exact congrArg (fun x => (⟨x, r ++ [t]⟩ : Ru)) (Option.some.inj hg).symm
        · intro p hp
          rcases List.mem_cons.1 hp with rfl | hp
          · refine ⟨by simp only; omega, by simp only; omega, ?_, ⟨n, hg, hn1⟩, ?_⟩
            · intro u hu
              simp only [hsz, hr1, List.getLast?_append, List.getLast?_singleton, Option.some_or, Option.some.injEq] at hu
              rw [← hu]; exact h5
            · intro u hu
              simp only [hsz, hr1] at hu
              rcases List.mem_append.1 hu with hu | hu
              · exact hb0 u hu
              · rw [List.mem_singleton.1 hu]; exact h3
          · exact ih2 p hp
      · rw [if_neg h5] at hn ⊢
        rw [if_neg h5]
        refine cut_rule L l (st + 2 + r.length + 1) st (.parts n (r ++ [t])) ⟨by simp; omega, hg, by simpa using hr1⟩ hdl hn (by rintro m (h | ⟨q, h⟩) <;> cases h; exact hn1) ?_
        intro m q h
        cases h
        intro u hu
        rcases List.mem_append.1 hu with hu | hu
        · exact hb0 u hu
        · rw [List.mem_singleton.1 hu]; exact h3

/-- The tokens' kinds. -/
theorem kindOf_two : ∀ l, kindOf l ≤ 2
  | [] => by decide
  | c :: l => by
    show (if nameOk (c :: l) = true then (if up c = true then 1 else 2) else 0) ≤ 2
    cases nameOk (c :: l) <;> cases up c <;> decide

theorem piece_kind (c : UInt8) (l : List UInt8) : (piece c l).1 = 9 ∨ (piece c l).1 ≤ 4 := by
  have h := kindOf_two ((c :: l).take (rowLen (c :: l)))
  unfold piece
  split
  · simp
  split
  · simp
  split
  · simp
  split
  · simp
  right
  show kindOf _ ≤ 4
  omega

theorem lin_kinds : ∀ (n : Nat) (l : List UInt8) (line col : Nat), l.length ≤ n → ∀ t ∈ (lin l line col).1, 1 ≤ t.kind ∧ t.kind ≤ 5
  | _, [], _, _, _, t, ht => by rw [lin_nil] at ht; cases ht
  | 0, c :: l, _, _, h, t, ht => by simp at h
  | n + 1, c :: l, line, col, h, t, ht => by
    rw [lin_cons] at ht
    by_cases h0 : (piece c l).1 = 0
    · rw [if_pos h0] at ht; cases ht
    · rw [if_neg h0] at ht
      have hp := piece_pos c l h0
      have hlen : ((c :: l).drop (piece c l).2).length ≤ n := by rw [List.length_drop]; simp only [List.length_cons] at h ⊢; omega
      by_cases h9 : (piece c l).1 = 9
      · rw [if_pos h9] at ht
        exact lin_kinds n _ _ _ hlen t ht
      · rw [if_neg h9] at ht
        rcases List.mem_cons.1 ht with rfl | ht
        · have := piece_kind c l
          simp only
          omega
        · exact lin_kinds n _ _ _ hlen t ht

theorem txt_kinds : ∀ (n : Nat) (s : List UInt8) (line : Nat), s.length ≤ n → ∀ t ∈ (txt s line).1, 1 ≤ t.kind ∧ t.kind ≤ 5
  | _, [], _, _, t, ht => by rw [txt_nil] at ht; cases ht
  | 0, c :: l, _, h, t, ht => by simp at h
  | n + 1, c :: l, line, h, t, ht => by
    rw [txt_cons] at ht
    split at ht
    · rcases List.mem_append.1 ht with ht | ht
      · exact lin_kinds _ _ _ _ (Nat.le_refl _) t ht
      · rcases List.mem_cons.1 ht with rfl | ht
        · simp
        · have := rest_lt c l
          exact txt_kinds n _ _ (by simp only [List.length_cons] at h this; omega) t ht
    · cases ht

theorem txt_fairT (s : List UInt8) (line : Nat) : ∀ t ∈ (txt s line).1, FairT t := fun t ht =>
  ⟨(txt_fair _ s line (Nat.le_refl _) t ht).1, (txt_fair _ s line (Nat.le_refl _) t ht).2, (txt_kinds _ s line (Nat.le_refl _) t ht).1, (txt_kinds _ s line (Nat.le_refl _) t ht).2⟩

end Go.Proofs.Ytdnlbmdmaiacaaa
