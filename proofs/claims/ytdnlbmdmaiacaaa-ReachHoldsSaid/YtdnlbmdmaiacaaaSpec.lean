/- What chapter 3 says of a text: its lines, what each begins with, its tokens, as plain functions on lists of bytes. No program here. -/
import Derived.Lib.CutLaws
namespace Go.Proofs.Ytdnlbmdmaiacaaa.Doc
open Go.Lib

def up (c : UInt8) : Bool := decide (65 ≤ c.toNat) && decide (c.toNat ≤ 90)
def low (c : UInt8) : Bool := decide (97 ≤ c.toNat) && decide (c.toNat ≤ 122)
def dig (c : UInt8) : Bool := decide (48 ≤ c.toNat) && decide (c.toNat ≤ 57)
def lett (c : UInt8) : Bool := up c || low c
def word (c : UInt8) : Bool := lett c || dig c

/-- How many letters and digits a list begins with. -/
def rowLen : List UInt8 → Nat
  | [] => 0
  | c :: l => if word c then rowLen l + 1 else 0

/-- A name. -/
def nameOk : List UInt8 → Bool
  | [] => false
  | c :: l => decide (l.length < 8) && lett c && decide (rowLen (c :: l) = l.length + 1)

/-- 1: upper, 2: lower, 0: no name. -/
def kindOf : List UInt8 → Nat
  | [] => 0
  | c :: l => if nameOk (c :: l) then (if up c then 1 else 2) else 0

/-- What the rest of a line, which begins with c, begins with (0: wrong, 9: passed over), and how long it is. -/
def piece (c : UInt8) (l : List UInt8) : Nat × Nat :=
  if c = 32 then (9, 1) else if c = 35 then (9, l.length + 1) else if c = 58 then (3, 1) else if c = 124 then (4, 1)
  else (kindOf ((c :: l).take (rowLen (c :: l))), rowLen (c :: l))

structure Tok where
  kind : Nat
  text : List UInt8
  line : Nat
  col : Nat
deriving DecidableEq

/-- The tokens of a line's rest that begins at col, and the column of what is wrong (0: nothing is). -/
def lineF : Nat → List UInt8 → Nat → Nat → List Tok × Nat
  | 0, _, _, _ => ([], 0)
  | _ + 1, [], _, _ => ([], 0)
  | f + 1, c :: l, line, col =>
    if (piece c l).1 = 0 then ([], col)
    else if (piece c l).1 = 9 then lineF f ((c :: l).drop (piece c l).2) line (col + (piece c l).2)
    else (⟨(piece c l).1, (c :: l).take (piece c l).2, line, col⟩ :: (lineF f ((c :: l).drop (piece c l).2) line (col + (piece c l).2)).1, (lineF f ((c :: l).drop (piece c l).2) line (col + (piece c l).2)).2)

def head (t : List UInt8) : List UInt8 := t.takeWhile (fun c => c != 10)
def rest (t : List UInt8) : List UInt8 := (t.dropWhile (fun c => c != 10)).drop 1

/-- The tokens of the lines of t, the first of them line: or where it is wrong (0, 0: it is not). -/
def textF : Nat → List UInt8 → Nat → List Tok × Nat × Nat
  | 0, _, _ => ([], 0, 0)
  | _ + 1, [], _ => ([], 0, 0)
  | f + 1, c :: l, line =>
    if (lineF (head (c :: l)).length (head (c :: l)) line 1).2 = 0 then
      ((lineF (head (c :: l)).length (head (c :: l)) line 1).1 ++ ⟨5, [], line, (head (c :: l)).length + 1⟩ :: (textF f (rest (c :: l)) (line + 1)).1, (textF f (rest (c :: l)) (line + 1)).2)
    else ([], line, (lineF (head (c :: l)).length (head (c :: l)) line 1).2)

def toks (t : List UInt8) : List Tok × Nat × Nat := textF t.length t 1

/-! Laws. -/
theorem rowLen_le : ∀ l, rowLen l ≤ l.length
  | [] => Nat.le_refl _
  | c :: l => by
    have := rowLen_le l
    unfold rowLen
    split <;> simp only [List.length_cons] <;> omega

theorem kindOf_lt : ∀ l, kindOf l < 9
  | [] => by decide
  | c :: l => by
    show (if nameOk (c :: l) = true then (if up c = true then 1 else 2) else 0) < 9
    cases nameOk (c :: l) <;> cases up c <;> decide

theorem kindOf_nil : kindOf [] = 0 := rfl

theorem word_not {c : UInt8} (h : ¬ word c = true) : rowLen [c] = 0 := by simp [rowLen, h]

theorem piece_size (c : UInt8) (l : List UInt8) : (piece c l).2 ≤ l.length + 1 := by
  have := rowLen_le (c :: l)
  simp only [List.length_cons] at this
  unfold piece
  split
  · simp
  split
  · simp
  split
  · simp
  split
  · simp
  exact this

theorem piece_pos (c : UInt8) (l : List UInt8) (h : (piece c l).1 ≠ 0) : 0 < (piece c l).2 := by
  revert h
  unfold piece
  split
  · simp
  split
  · simp
  split
  · simp
  split
  · simp
  intro h
  show 0 < rowLen (c :: l)
  rcases Nat.eq_zero_or_pos (rowLen (c :: l)) with h0 | h0
  · refine absurd ?_ h
    show kindOf _ = 0
    rw [h0]; rfl
  · exact h0

/-- More fuel is no matter. -/
theorem lineF_fuel : ∀ (f g : Nat) (l : List UInt8) (line col : Nat), l.length ≤ f → l.length ≤ g → lineF f l line col = lineF g l line col
  | 0, 0, _, _, _, _, _ => rfl
  | 0, g + 1, [], _, _, _, _ => rfl
  | f + 1, 0, [], _, _, _, _ => rfl
  | 0, _, c :: l, _, _, h, _ => by simp at h
  | _, 0, c :: l, _, _, _, h => by simp at h
  | f + 1, g + 1, [], _, _, _, _ => rfl
  | f + 1, g + 1, c :: l, line, col, hf, hg => by
    simp only [List.length_cons] at hf hg
    by_cases h : (piece c l).1 = 0
    · simp [lineF, h]
    · have hp := piece_pos c l h
      have ih := lineF_fuel f g ((c :: l).drop (piece c l).2) line (col + (piece c l).2) (by simp only [List.length_drop, List.length_cons]; omega) (by simp only [List.length_drop, List.length_cons]; omega)
      simp only [lineF, ih]

/-- A line's rest. -/
def lin (l : List UInt8) (line col : Nat) : List Tok × Nat := lineF l.length l line col

theorem lin_nil (line col : Nat) : lin [] line col = ([], 0) := rfl

theorem lin_cons (c : UInt8) (l : List UInt8) (line col : Nat) : lin (c :: l) line col =
    if (piece c l).1 = 0 then ([], col)
    else if (piece c l).1 = 9 then lin ((c :: l).drop (piece c l).2) line (col + (piece c l).2)
    else (⟨(piece c l).1, (c :: l).take (piece c l).2, line, col⟩ :: (lin ((c :: l).drop (piece c l).2) line (col + (piece c l).2)).1, (lin ((c :: l).drop (piece c l).2) line (col + (piece c l).2)).2) := by
  by_cases h : (piece c l).1 = 0
  · simp [lin, lineF, h]
  · have hp := piece_pos c l h
    have e : lineF l.length ((c :: l).drop (piece c l).2) line (col + (piece c l).2) = lin ((c :: l).drop (piece c l).2) line (col + (piece c l).2) := by
      refine lineF_fuel _ _ _ _ _ ?_ (Nat.le_refl _)
      simp only [List.length_drop, List.length_cons]; omega
    rw [← e]
    simp only [lin, List.length_cons, lineF]

theorem rest_lt (c : UInt8) (l : List UInt8) : (rest (c :: l)).length < (c :: l).length := by
  have h : ((c :: l).dropWhile (fun c => c != 10)).length ≤ (c :: l).length := (List.dropWhile_suffix _).length_le
  unfold rest
  rw [List.length_drop]
  simp only [List.length_cons] at h ⊢
  omega

theorem textF_fuel : ∀ (f g : Nat) (l : List UInt8) (line : Nat), l.length ≤ f → l.length ≤ g → textF f l line = textF g l line
  | 0, 0, _, _, _, _ => rfl
  | 0, g + 1, [], _, _, _ => rfl
  | f + 1, 0, [], _, _, _ => rfl
  | 0, _, c :: l, _, h, _ => by simp at h
  | _, 0, c :: l, _, _, h => by simp at h
  | f + 1, g + 1, [], _, _, _ => rfl
  | f + 1, g + 1, c :: l, line, hf, hg => by
    have hr := rest_lt c l
    simp only [List.length_cons] at hf hg hr
    have ih := textF_fuel f g (rest (c :: l)) (line + 1) (by omega) (by omega)
    simp only [textF, ih]

/-- The text's rest, from line on. -/
def txt (t : List UInt8) (line : Nat) : List Tok × Nat × Nat := textF t.length t line

theorem txt_nil (line : Nat) : txt [] line = ([], 0, 0) := rfl

theorem txt_cons (c : UInt8) (l : List UInt8) (line : Nat) : txt (c :: l) line =
    if (lin (head (c :: l)) line 1).2 = 0 then
      ((lin (head (c :: l)) line 1).1 ++ ⟨5, [], line, (head (c :: l)).length + 1⟩ :: (txt (rest (c :: l)) (line + 1)).1, (txt (rest (c :: l)) (line + 1)).2)
    else ([], line, (lin (head (c :: l)) line 1).2) := by
  have hr := rest_lt c l
  simp only [List.length_cons] at hr
  have e : textF l.length (rest (c :: l)) (line + 1) = txt (rest (c :: l)) (line + 1) := textF_fuel _ _ _ _ (by omega) (Nat.le_refl _)
  rw [← e]
  simp only [txt, List.length_cons, textF, lin]
  rfl

/-! What the library's cut at a line's end is. -/
theorem index_ten : ∀ l : List UInt8, (index l [10] = -1 ∧ head l = l ∧ rest l = []) ∨ (∃ i : Nat, index l [10] = i ∧ head l = l.take i ∧ rest l = l.drop (i + 1))
  | [] => .inl ⟨rfl, rfl, rfl⟩
  | b :: l => by
    by_cases hb : b = 10
    · subst hb
      exact .inr ⟨0, rfl, by simp [head], by simp [rest]⟩
    · have hp : List.isPrefixOf [10] (b :: l) = false := by
        simp [List.isPrefixOf, Ne.symm hb]
      have hh : head (b :: l) = b :: head l := by simp [head, hb]
      have hr : rest (b :: l) = rest l := by simp [rest, hb]
      rcases index_ten l with ⟨h1, h2, h3⟩ | ⟨i, h1, h2, h3⟩
      · left
        refine ⟨?_, by rw [hh, h2], by rw [hr, h3]⟩
        unfold index
        rw [hp, h1]; rfl
      · right
        refine ⟨i + 1, ?_, by rw [hh, h2]; rfl, by rw [hr, h3]; rfl⟩
        unfold index
        rw [hp, h1]
        have : ((i : Int) == -1) = false := by rw [beq_eq_false_iff_ne]; omega
        simp [this]

theorem cut_ten (l : List UInt8) : (cut l [10]).1 = head l ∧ (cut l [10]).2.1 = rest l := by
  rcases index_ten l with ⟨h1, h2, h3⟩ | ⟨i, h1, h2, h3⟩
  · simp [cut, h1, h2, h3]
  · unfold cut
    rw [h1, if_pos (by omega)]
    simp [h2, h3]

theorem head_no : ∀ (l : List UInt8), ∀ c ∈ head l, c ≠ 10
  | [], c, hc => by simp [head] at hc
  | b :: l, c, hc => by
    by_cases hb : b = 10
    · subst hb; simp [head] at hc
    · have hh : head (b :: l) = b :: head l := by simp [head, hb]
      rw [hh] at hc
      rcases List.mem_cons.1 hc with h | h
      · exact h ▸ hb
      · exact head_no l c h

theorem head_rest (l : List UInt8) : l = head l ++ (if (l.dropWhile (fun c => c != 10)) = [] then [] else 10 :: rest l) := by
  conv => lhs; rw [← List.takeWhile_append_dropWhile (p := fun c => c != 10) (l := l)]
  congr 1
  split
  · assumption
  · rename_i h
    rcases hd : l.dropWhile (fun c => c != 10) with _ | ⟨b, m⟩
    · exact absurd hd h
    · have hb : b = 10 := by
        have := List.head?_dropWhile_not (p := fun c : UInt8 => c != 10) l
        rw [hd] at this
        simpa using this
      rw [rest, hd, hb]; rfl

end Go.Proofs.Ytdnlbmdmaiacaaa.Doc
