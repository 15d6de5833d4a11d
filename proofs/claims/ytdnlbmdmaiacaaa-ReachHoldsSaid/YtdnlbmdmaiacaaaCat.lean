/- Two texts, one behind the other; blanks ahead; a remark ahead: what the plain functions tell of them. No program here. -/
import Derived.Test.YtdnlbmdmaiacaaaSpec
namespace Go.Proofs.Ytdnlbmdmaiacaaa
open Doc

def cnt (l : List UInt8) : Nat := (l.filter (· == 10)).length
theorem cnt_append (a b : List UInt8) : cnt (a ++ b) = cnt a + cnt b := by simp [cnt]
theorem cnt_none {a : List UInt8} (h : ∀ c ∈ a, c ≠ 10) : cnt a = 0 := by
  unfold cnt
  rw [List.length_eq_zero_iff, List.filter_eq_nil_iff]
  intro c hc
  simpa using h c hc

/-- Further lines on. -/
def down (n : Nat) (t : Tok) : Tok := ⟨t.kind, t.text, t.line + n, t.col⟩
/-- Further columns on. -/
def along (n : Nat) (t : Tok) : Tok := ⟨t.kind, t.text, t.line, t.col + n⟩

theorem lin_down (k : Nat) : ∀ (n : Nat) (l : List UInt8) (line col : Nat), l.length ≤ n → lin l (line + k) col = ((lin l line col).1.map (down k), (lin l line col).2)
  | _, [], _, _, _ => by simp [lin_nil]
  | 0, c :: l, _, _, h => by simp at h
  | n + 1, c :: l, line, col, h => by
    rw [lin_cons, lin_cons]
    by_cases h0 : (piece c l).1 = 0
    · simp [h0]
    · have hp := piece_pos c l h0
      have hd : ((c :: l).drop (piece c l).2).length ≤ n := by rw [List.length_drop]; simp only [List.length_cons] at *; omega
      have ih := lin_down k n ((c :: l).drop (piece c l).2) line (col + (piece c l).2) hd
      rw [ih]
      by_cases h9 : (piece c l).1 = 9
      · simp [h9]
      · simp [h0, h9, down]

theorem lin_along (k : Nat) : ∀ (n : Nat) (l : List UInt8) (line col : Nat), l.length ≤ n → lin l line (col + k) = ((lin l line col).1.map (along k), if (lin l line col).2 = 0 ∧ True then 0 else (lin l line col).2 + k) ∨ col = 0
  | _, [], _, _, _ => by simp [lin_nil]
  | 0, c :: l, _, _, h => by simp at h
  | n + 1, c :: l, line, col, h => by
    by_cases hc : col = 0
    · exact .inr hc
    left
    rw [lin_cons, lin_cons]
    by_cases h0 : (piece c l).1 = 0
    · simp [h0, hc]
    · have hp := piece_pos c l h0
      have hd : ((c :: l).drop (piece c l).2).length ≤ n := by rw [List.length_drop]; simp only [List.length_cons] at *; omega
      have ih := (lin_along k n ((c :: l).drop (piece c l).2) line (col + (piece c l).2) hd).resolve_right (by omega)
      rw [show col + k + (piece c l).2 = col + (piece c l).2 + k by omega, ih]
      by_cases h9 : (piece c l).1 = 9
      · simp [h9]
      · simp [h0, h9, along]

theorem txt_down (k : Nat) : ∀ (n : Nat) (t : List UInt8) (line : Nat), t.length ≤ n → 0 < line →
    (txt t (line + k)).1 = (txt t line).1.map (down k) ∧ (txt t (line + k)).2 = if (txt t line).2 = (0, 0) then (0, 0) else ((txt t line).2.1 + k, (txt t line).2.2)
  | _, [], _, _, _ => by simp [txt_nil]
  | 0, c :: l, _, h, _ => by simp at h
  | n + 1, c :: l, line, h, hl => by
    have hr := rest_lt c l
    have ih := txt_down k n (rest (c :: l)) (line + 1) (by omega) (by omega)
    have hlin := lin_down k _ (head (c :: l)) line 1 (Nat.le_refl _)
    rw [txt_cons, txt_cons, hlin]
    by_cases h0 : (lin (head (c :: l)) line 1).2 = 0
    · simp only [h0, if_true]
      rw [show line + k + 1 = line + 1 + k by omega, ih.1, ih.2]
      refine ⟨by simp [down], rfl⟩
    · simp only [if_neg h0]
      refine ⟨by simp, ?_⟩
      rw [if_neg (by simp; omega)]

theorem head_app (a b : List UInt8) (h : ∀ c ∈ a, c ≠ 10) : head (a ++ 10 :: b) = a := by
  induction a with
  | nil => simp [head]
  | cons c a ih =>
    have hc := h c List.mem_cons_self
    have := ih fun d hd => h d (List.mem_cons_of_mem _ hd)
    unfold head at this ⊢
    simp [hc]
    simpa using this
theorem rest_app (a b : List UInt8) (h : ∀ c ∈ a, c ≠ 10) : rest (a ++ 10 :: b) = b := by
  induction a with
  | nil => simp [rest]
  | cons c a ih =>
    have hc := h c List.mem_cons_self
    have := ih fun d hd => h d (List.mem_cons_of_mem _ hd)
    unfold rest at this ⊢
    simp [hc]
    simpa using this

/-- A first line, and what follows. -/
theorem txt_line1 (a b : List UInt8) (h : ∀ c ∈ a, c ≠ 10) (line : Nat) : txt (a ++ 10 :: b) line =
    if (lin a line 1).2 = 0 then ((lin a line 1).1 ++ ⟨5, [], line, a.length + 1⟩ :: (txt b (line + 1)).1, (txt b (line + 1)).2) else ([], line, (lin a line 1).2) := by
  obtain ⟨c, l, hcl⟩ : ∃ c l, a ++ 10 :: b = c :: l := by cases a <;> exact ⟨_, _, rfl⟩
  have h1 := head_app a b h
  have h2 := rest_app a b h
  rw [hcl] at h1 h2 ⊢
  rw [txt_cons, h1, h2]

/-- A text is a line, and lines. -/
theorem lines_ind : ∀ (n : Nat) (A : List UInt8), A.length ≤ n → (∀ c ∈ A, c ≠ 10) ∨ ∃ a A', A = a ++ 10 :: A' ∧ (∀ c ∈ a, c ≠ 10) ∧ A'.length < A.length
  | _, [], _ => .inl (by simp)
  | 0, c :: l, h => by simp at h
  | n + 1, c :: l, h => by
    by_cases hc : c = 10
    · subst hc; exact .inr ⟨[], l, rfl, by simp, by simp⟩
    · rcases lines_ind n l (by simpa using h) with h1 | ⟨a, A', h1, h2, h3⟩
      · left
        intro d hd
        rcases List.mem_cons.1 hd with rfl | hd
        · exact hc
        · exact h1 d hd
      · right
        refine ⟨c :: a, A', by rw [h1]; rfl, ?_, by simp; omega⟩
        intro d hd
        rcases List.mem_cons.1 hd with rfl | hd
        · exact hc
        · exact h2 d hd

/-- Two texts, the first one ended. -/
theorem txt_two : ∀ (n : Nat) (A b : List UInt8) (line : Nat), A.length ≤ n → 0 < line →
    (if (txt (A ++ [10]) line).2 = (0, 0) then txt (A ++ 10 :: b) line = ((txt (A ++ [10]) line).1 ++ (txt b (line + cnt (A ++ [10]))).1, (txt b (line + cnt (A ++ [10]))).2)
     else (txt (A ++ 10 :: b) line).2 = (txt (A ++ [10]) line).2)
  | n, A, b, line, hn, hl => by
    rcases lines_ind A.length A (Nat.le_refl _) with h | ⟨a, A', h1, h2, h3⟩
    · rw [txt_line1 A b h, txt_line1 A [] h, cnt_append, cnt_none h]
      by_cases h0 : (lin A line 1).2 = 0
      · simp [h0, txt_nil, cnt]
      · simp [h0, show line ≠ 0 by omega]
    · obtain ⟨m, rfl⟩ : ∃ m, n = m + 1 := ⟨n - 1, by omega⟩
      have ih := txt_two m A' b (line + 1) (by omega) (by omega)
      subst h1
      rw [show a ++ 10 :: A' ++ [10] = a ++ 10 :: (A' ++ [10]) by simp, show a ++ 10 :: A' ++ 10 :: b = a ++ 10 :: (A' ++ 10 :: b) by simp,
        txt_line1 a (A' ++ 10 :: b) h2, txt_line1 a (A' ++ [10]) h2, show a ++ 10 :: (A' ++ [10]) = a ++ ([10] ++ (A' ++ [10])) by simp, cnt_append, cnt_none h2, cnt_append,
        show line + (0 + (cnt [10] + cnt (A' ++ [10]))) = line + 1 + cnt (A' ++ [10]) by simp [cnt]; omega]
      by_cases h0 : (lin a line 1).2 = 0
      · simp only [h0, if_true]
        by_cases hx : (txt (A' ++ [10]) (line + 1)).2 = (0, 0)
        · rw [if_pos hx] at ih ⊢
          rw [ih]
          simp
        · rw [if_neg hx] at ih ⊢
          exact ih
      · simp [h0, show line ≠ 0 by omega]

/-- Both are texts: both's tokens; one is none: nor are both. -/
theorem two_good (A b : List UInt8) (ha : (txt (A ++ [10]) 1).2 = (0, 0)) (hb : (txt b 1).2 = (0, 0)) :
    txt (A ++ 10 :: b) 1 = ((txt (A ++ [10]) 1).1 ++ (txt b 1).1.map (down (cnt (A ++ [10]))), 0, 0) := by
  have h := txt_two _ A b 1 (Nat.le_refl _) (by decide)
  have hd := txt_down (cnt (A ++ [10])) _ b 1 (Nat.le_refl _) (by decide)
  rw [if_pos ha] at h
  rw [if_pos hb] at hd
  rw [h, hd.1, hd.2]
theorem two_poor (A b : List UInt8) (h : (txt (A ++ [10]) 1).2 ≠ (0, 0) ∨ (txt b 1).2 ≠ (0, 0)) : (txt (A ++ 10 :: b) 1).2 ≠ (0, 0) := by
  have ht := txt_two _ A b 1 (Nat.le_refl _) (by decide)
  by_cases ha : (txt (A ++ [10]) 1).2 = (0, 0)
  · have hb := h.resolve_left (fun h => h ha)
    have hd := txt_down (cnt (A ++ [10])) _ b 1 (Nat.le_refl _) (by decide)
    rw [if_pos ha] at ht
    rw [if_neg hb] at hd
    rw [ht]
    show (txt b (1 + cnt (A ++ [10]))).2 ≠ (0, 0)
    rw [hd.2]
    intro h0
    simp only [Prod.mk.injEq] at h0
    exact hb (Prod.ext (by show _ = 0; omega) h0.2)
  · rw [if_neg ha] at ht
    rw [ht]
    exact ha

/-- Blanks ahead. -/
theorem lin_blanks (l : List UInt8) (line : Nat) : ∀ (j col : Nat), lin (List.replicate j 32 ++ l) line col = lin l line (col + j)
  | 0, col => by simp
  | j + 1, col => by
    rw [List.replicate_succ, List.cons_append, lin_cons]
    have hp : piece 32 (List.replicate j 32 ++ l) = (9, 1) := rfl
    rw [hp]
    simp only [if_true, List.drop_succ_cons, List.drop_zero]
    rw [lin_blanks l line j (col + 1)]
    simp [show col + 1 + j = col + (j + 1) by omega]

theorem end_line (B : List UInt8) : ∃ a B', B ++ [10] = a ++ 10 :: B' ∧ ∀ c ∈ a, c ≠ 10 := by
  rcases lines_ind B.length B (Nat.le_refl _) with h | ⟨a, A', h1, h2, _⟩
  · exact ⟨B, [], rfl, h⟩
  · exact ⟨a, A' ++ [10], by rw [h1]; simp, h2⟩

theorem blanks_ahead (B : List UInt8) (j : Nat) (h : (txt (B ++ [10]) 1).2 = (0, 0)) :
    ∃ m M c C, (txt (B ++ [10]) 1).1 = m :: M ∧ txt (List.replicate j 32 ++ (B ++ [10])) 1 = (c :: C, 0, 0) ∧ C.length = M.length ∧ c.col = m.col + j := by
  obtain ⟨a, B', hB, ha⟩ := end_line B
  have hb : ∀ c ∈ List.replicate j (32 : UInt8) ++ a, c ≠ 10 := by
    intro c hc
    rcases List.mem_append.1 hc with h | h
    · rw [List.eq_of_mem_replicate h]; decide
    · exact ha c h
  rw [hB] at h ⊢
  rw [txt_line1 a B' ha] at h ⊢
  rw [show List.replicate j 32 ++ (a ++ 10 :: B') = (List.replicate j 32 ++ a) ++ 10 :: B' by simp, txt_line1 _ B' hb, lin_blanks]
  have hal := (lin_along j _ a 1 1 (Nat.le_refl _)).resolve_right (by decide)
  by_cases h0 : (lin a 1 1).2 = 0
  · rw [if_pos h0] at h ⊢
    rw [hal]
    simp only [h0, and_self, if_true]
    rcases hl : (lin a 1 1).1 with _ | ⟨m, M⟩
    · exact ⟨_, _, _, _, rfl, by rw [h]; rfl, rfl, by simp; omega⟩
    · exact ⟨m, _, _, _, rfl, by rw [h]; rfl, by simp, rfl⟩
  · rw [if_neg h0] at h
    simp at h

/-- A remark's line ahead. -/
theorem remark_ahead (r b : List UInt8) (hr : ∀ c ∈ r, c ≠ 10) (h : (txt b 1).2 = (0, 0)) :
    txt ((35 :: r) ++ 10 :: b) 1 = (⟨5, [], 1, r.length + 2⟩ :: (txt b 1).1.map (down 1), 0, 0) := by
  have hno : ∀ c ∈ (35 :: r : List UInt8), c ≠ 10 := by
    intro c hc
    rcases List.mem_cons.1 hc with rfl | hc
    · decide
    · exact hr c hc
  have hl : lin (35 :: r) 1 1 = ([], 0) := by
    rw [lin_cons, show piece 35 r = (9, r.length + 1) from rfl]
    simp [lin_nil]
  have hd := txt_down 1 _ b 1 (Nat.le_refl _) (by decide)
  rw [if_pos h] at hd
  rw [txt_line1 _ b hno, hl]
  simp only [if_true, List.nil_append, List.length_cons, hd.1, hd.2]

end Go.Proofs.Ytdnlbmdmaiacaaa
