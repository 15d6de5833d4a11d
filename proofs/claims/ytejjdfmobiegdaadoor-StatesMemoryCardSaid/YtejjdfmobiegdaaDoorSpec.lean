/- What chapter 3 says of a text: its lines, what each begins with, its tokens, as plain functions on lists of bytes. No program here. What chapter 4 says of a text as a grammar, as plain functions on lists of tokens. No program here. Reading a grammar where nothing is wrong: the places do not count. No program here. What a grammar is that was read of a text. No program here. A grammar that was read is a good one; a good one's tokens are read as it. No program here. Two texts, one behind the other; blanks ahead; a remark ahead: what the plain functions tell of them. No program here. A good grammar's own tokens are read as it. No program here. A good grammar's text, and what it is read as. No program here. What a grammar may be; which ones have a text. No program here. Grammars by small numbers, in plain words. No program here. -/
import Derived.Lib.CutLaws
namespace Go.Proofs.YtejjdfmobiegdaaDoor.Doc
open Go.Lib

def up (c : UInt8) : Bool := decide (65 ≤ c.toNat) && decide (c.toNat ≤ 90)
def low (c : UInt8) : Bool := decide (97 ≤ c.toNat) && decide (c.toNat ≤ 122)
def dig (c : UInt8) : Bool := decide (48 ≤ c.toNat) && decide (c.toNat ≤ 57)
def lett (c : UInt8) : Bool := up c || low c
def word (c : UInt8) : Bool := lett c || dig c

/-- How many letters and digits a list begins with. -/
def rowLen : List UInt8 → Nat
  | [] => 0
  | c :: l => if word c then rowLen l + 1 else 0

/-- A name. -/
def nameOk : List UInt8 → Bool
  | [] => false
  | c :: l => decide (l.length < 8) && lett c && decide (rowLen (c :: l) = l.length + 1)

/-- 1: upper, 2: lower, 0: no name. -/
def kindOf : List UInt8 → Nat
  | [] => 0
  | c :: l => if nameOk (c :: l) then (if up c then 1 else 2) else 0

/-- What the rest of a line, which begins with c, begins with (0: wrong, 9: passed over), and how long it is. -/
def piece (c : UInt8) (l : List UInt8) : Nat × Nat :=
  if c = 32 then (9, 1) else if c = 35 then (9, l.length + 1) else if c = 58 then (3, 1) else if c = 124 then (4, 1)
  else (kindOf ((c :: l).take (rowLen (c :: l))), rowLen (c :: l))

structure Tok where
  kind : Nat
  text : List UInt8
  line : Nat
  col : Nat
deriving DecidableEq

/-- The tokens of a line's rest that begins at col, and the column of what is wrong (0: nothing is). -/
def lineF : Nat → List UInt8 → Nat → Nat → List Tok × Nat
  | 0, _, _, _ => ([], 0)
  | _ + 1, [], _, _ => ([], 0)
  | f + 1, c :: l, line, col =>
    if (piece c l).1 = 0 then ([], col)
    else if (piece c l).1 = 9 then lineF f ((c :: l).drop (piece c l).2) line (col + (piece c l).2)
    else (⟨(piece c l).1, (c :: l).take (piece c l).2, line, col⟩ :: (lineF f ((c :: l).drop (piece c l).2) line (col + (piece c l).2)).1, (lineF f ((c :: l).drop (piece c l).2) line (col + (piece c l).2)).2)

def head (t : List UInt8) : List UInt8 := t.takeWhile (fun c => c != 10)
def rest (t : List UInt8) : List UInt8 := (t.dropWhile (fun c => c != 10)).drop 1

/-- The tokens of the lines of t, the first of them line: or where it is wrong (0, 0: it is not). -/
def textF : Nat → List UInt8 → Nat → List Tok × Nat × Nat
  | 0, _, _ => ([], 0, 0)
  | _ + 1, [], _ => ([], 0, 0)
  | f + 1, c :: l, line =>
    if (lineF (head (c :: l)).length (head (c :: l)) line 1).2 = 0 then
      ((lineF (head (c :: l)).length (head (c :: l)) line 1).1 ++ ⟨5, [], line, (head (c :: l)).length + 1⟩ :: (textF f (rest (c :: l)) (line + 1)).1, (textF f (rest (c :: l)) (line + 1)).2)
    else ([], line, (lineF (head (c :: l)).length (head (c :: l)) line 1).2)

def toks (t : List UInt8) : List Tok × Nat × Nat := textF t.length t 1

/-! Laws. -/
theorem rowLen_le : ∀ l, rowLen l ≤ l.length
  | [] => Nat.le_refl _
  | c :: l => by
    have := rowLen_le l
    unfold rowLen
    split <;> simp only [List.length_cons] <;> omega

theorem kindOf_lt : ∀ l, kindOf l < 9
  | [] => by decide
  | c :: l => by
    show (if nameOk (c :: l) = true then (if up c = true then 1 else 2) else 0) < 9
    cases nameOk (c :: l) <;> cases up c <;> decide

theorem kindOf_nil : kindOf [] = 0 := rfl

theorem word_not {c : UInt8} (h : ¬ word c = true) : rowLen [c] = 0 := by simp [rowLen, h]

theorem piece_size (c : UInt8) (l : List UInt8) : (piece c l).2 ≤ l.length + 1 := by
  have := rowLen_le (c :: l)
  simp only [List.length_cons] at this
  unfold piece
  split
  · simp
  split
  · simp
  split
  · simp
  split
  · simp
  exact this

theorem piece_pos (c : UInt8) (l : List UInt8) (h : (piece c l).1 ≠ 0) : 0 < (piece c l).2 := by
  revert h
  unfold piece
  split
  · simp
  split
  · simp
  split
  · simp
  split
  · simp
  intro h
  show 0 < rowLen (c :: l)
  rcases Nat.eq_zero_or_pos (rowLen (c :: l)) with h0 | h0
  · refine absurd ?_ h
    show kindOf _ = 0
    rw [h0]; rfl
  · exact h0

/-- More fuel is no matter. -/
theorem lineF_fuel : ∀ (f g : Nat) (l : List UInt8) (line col : Nat), l.length ≤ f → l.length ≤ g → lineF f l line col = lineF g l line col
  | 0, 0, _, _, _, _, _ => rfl
  | 0, g + 1, [], _, _, _, _ => rfl
  | f + 1, 0, [], _, _, _, _ => rfl
  | 0, _, c :: l, _, _, h, _ => by simp at h
  | _, 0, c :: l, _, _, _, h => by simp at h
  | f + 1, g + 1, [], _, _, _, _ => rfl
  | f + 1, g + 1, c :: l, line, col, hf, hg => by
    simp only [List.length_cons] at hf hg
    by_cases h : (piece c l).1 = 0
    · simp [lineF, h]
    · have hp := piece_pos c l h
      have ih := lineF_fuel f g ((c :: l).drop (piece c l).2) line (col + (piece c l).2) (by simp only [List.length_drop, List.length_cons]; omega) (by simp only [List.length_drop, List.length_cons]; omega)
      simp only [lineF, ih]

/-- A line's rest. -/
def lin (l : List UInt8) (line col : Nat) : List Tok × Nat := lineF l.length l line col

theorem lin_nil (line col : Nat) : lin [] line col = ([], 0) := rfl

theorem lin_cons (c : UInt8) (l : List UInt8) (line col : Nat) : lin (c :: l) line col =
    if (piece c l).1 = 0 then ([], col)
    else if (piece c l).1 = 9 then lin ((c :: l).drop (piece c l).2) line (col + (piece c l).2)
    else (⟨(piece c l).1, (c :: l).take (piece c l).2, line, col⟩ :: (lin ((c :: l).drop (piece c l).2) line (col + (piece c l).2)).1, (lin ((c :: l).drop (piece c l).2) line (col + (piece c l).2)).2) := by
  by_cases h : (piece c l).1 = 0
  · simp [lin, lineF, h]
  · have hp := piece_pos c l h
    have e : lineF l.length ((c :: l).drop (piece c l).2) line (col + (piece c l).2) = lin ((c :: l).drop (piece c l).2) line (col + (piece c l).2) := by
      refine lineF_fuel _ _ _ _ _ ?_ (Nat.le_refl _)
      simp only [List.length_drop, List.length_cons]; omega
    rw [← e]
    simp only [lin, List.length_cons, lineF]

theorem rest_lt (c : UInt8) (l : List UInt8) : (rest (c :: l)).length < (c :: l).length := by
  have h : ((c :: l).dropWhile (fun c => c != 10)).length ≤ (c :: l).length := (List.dropWhile_suffix _).length_le
  unfold rest
  rw [List.length_drop]
  simp only [List.length_cons] at h ⊢
  omega

theorem textF_fuel : ∀ (f g : Nat) (l : List UInt8) (line : Nat), l.length ≤ f → l.length ≤ g → textF f l line = textF g l line
  | 0, 0, _, _, _, _ => rfl
  | 0, g + 1, [], _, _, _ => rfl
  | f + 1, 0, [], _, _, _ => rfl
  | 0, _, c :: l, _, h, _ => by simp at h
  | _, 0, c :: l, _, _, h => by simp at h
  | f + 1, g + 1, [], _, _, _ => rfl
  | f + 1, g + 1, c :: l, line, hf, hg => by
    have hr := rest_lt c l
    simp only [List.length_cons] at hf hg hr
    have ih := textF_fuel f g (rest (c :: l)) (line + 1) (by omega) (by omega)
    simp only [textF, ih]

/-- The text's rest, from line on. -/
def txt (t : List UInt8) (line : Nat) : List Tok × Nat × Nat := textF t.length t line

theorem txt_nil (line : Nat) : txt [] line = ([], 0, 0) := rfl

theorem txt_cons (c : UInt8) (l : List UInt8) (line : Nat) : txt (c :: l) line =
    if (lin (head (c :: l)) line 1).2 = 0 then
      ((lin (head (c :: l)) line 1).1 ++ ⟨5, [], line, (head (c :: l)).length + 1⟩ :: (txt (rest (c :: l)) (line + 1)).1, (txt (rest (c :: l)) (line + 1)).2)
    else ([], line, (lin (head (c :: l)) line 1).2) := by
  have hr := rest_lt c l
  simp only [List.length_cons] at hr
  have e : textF l.length (rest (c :: l)) (line + 1) = txt (rest (c :: l)) (line + 1) := textF_fuel _ _ _ _ (by omega) (Nat.le_refl _)
  rw [← e]
  simp only [txt, List.length_cons, textF, lin]
  rfl

/-! What the library's cut at a line's end is. -/
theorem index_ten : ∀ l : List UInt8, (index l [10] = -1 ∧ head l = l ∧ rest l = []) ∨ (∃ i : Nat, index l [10] = i ∧ head l = l.take i ∧ rest l = l.drop (i + 1))
  | [] => .inl ⟨rfl, rfl, rfl⟩
  | b :: l => by
    by_cases hb : b = 10
    · subst hb
      exact .inr ⟨0, rfl, by simp [head], by simp [rest]⟩
    · have hp : List.isPrefixOf [10] (b :: l) = false := by
        simp [List.isPrefixOf, Ne.symm hb]
      have hh : head (b :: l) = b :: head l := by simp [head, hb]
      have hr : rest (b :: l) = rest l := by simp [rest, hb]
      rcases index_ten l with ⟨h1, h2, h3⟩ | ⟨i, h1, h2, h3⟩
      · left
        refine ⟨?_, by rw [hh, h2], by rw [hr, h3]⟩
        unfold index
        rw [hp, h1]; rfl
      · right
        refine ⟨i + 1, ?_, by rw [hh, h2]; rfl, by rw [hr, h3]; rfl⟩
        unfold index
        rw [hp, h1]
        have : ((i : Int) == -1) = false := by rw [beq_eq_false_iff_ne]; omega
        simp [this]

theorem cut_ten (l : List UInt8) : (cut l [10]).1 = head l ∧ (cut l [10]).2.1 = rest l := by
  rcases index_ten l with ⟨h1, h2, h3⟩ | ⟨i, h1, h2, h3⟩
  · simp [cut, h1, h2, h3]
  · unfold cut
    rw [h1, if_pos (by omega)]
    simp [h2, h3]

theorem head_no : ∀ (l : List UInt8), ∀ c ∈ head l, c ≠ 10
  | [], c, hc => by simp [head] at hc
  | b :: l, c, hc => by
    by_cases hb : b = 10
    · subst hb; simp [head] at hc
    · have hh : head (b :: l) = b :: head l := by simp [head, hb]
      rw [hh] at hc
      rcases List.mem_cons.1 hc with h | h
      · exact h ▸ hb
      · exact head_no l c h

theorem head_rest (l : List UInt8) : l = head l ++ (if (l.dropWhile (fun c => c != 10)) = [] then [] else 10 :: rest l) := by
  conv => lhs; rw [← List.takeWhile_append_dropWhile (p := fun c => c != 10) (l := l)]
  congr 1
  split
  · assumption
  · rename_i h
    rcases hd : l.dropWhile (fun c => c != 10) with _ | ⟨b, m⟩
    · exact absurd hd h
    · have hb : b = 10 := by
        have := List.head?_dropWhile_not (p := fun c : UInt8 => c != 10) l
        rw [hd] at this
        simpa using this
      rw [rest, hd, hb]; rfl

end Go.Proofs.YtejjdfmobiegdaaDoor.Doc

namespace Go.Proofs.YtejjdfmobiegdaaDoor.Doc

/-- A grammar, plainly: names are lists of bytes; a production is its left and its right. -/
structure Gr where
  terms : List (List UInt8)
  nons : List (List UInt8)
  prods : List (Int × List Int)
deriving DecidableEq

/-- A rule: its name's token, and all behind the colon, the line's end with it. -/
structure Ru where
  name : Tok
  rest : List Tok
deriving DecidableEq

/-- Where one is within a line: at its start, behind its name, within its parts. -/
inductive At where
  | start
  | named (t : Tok)
  | parts (t : Tok) (l : List Tok)
deriving DecidableEq

/-- The rules of tokens; the first token that may not stand there. -/
def ruleF : List Tok → At → List Ru × Option Tok
  | [], _ => ([], none)
  | t :: l, .start => if t.kind = 5 then ruleF l .start else if t.kind = 1 then ruleF l (.named t) else ([], some t)
  | t :: l, .named n => if t.kind = 3 then ruleF l (.parts n []) else ([], some t)
  | t :: l, .parts n r => if t.kind = 3 then ([], some t) else if t.kind = 5 then (⟨n, r ++ [t]⟩ :: (ruleF l .start).1, (ruleF l .start).2) else ruleF l (.parts n (r ++ [t]))

/-- Where a text stands in a list. -/
def idx (l : List (List UInt8)) (s : List UInt8) : Option Nat := l.findIdx? (· == s)

/-- How reading ends: the grammar; or the place, and the error's number. -/
inductive End where
  | ok (g : Gr)
  | bad (line col e : Nat)
deriving DecidableEq

/-- The rules' names (the errors by api's numbers: 2 no form, 3 none, 4 twice, 5 too many). -/
def namesF : List Ru → List (List UInt8) → List (List UInt8) ⊕ (Nat × Nat × Nat)
  | [], ns => .inl ns
  | r :: l, ns => if (idx ns r.name.text).isSome then .inr (r.name.line, r.name.col, 4)
    else if 8 ≤ ns.length then .inr (r.name.line, r.name.col, 5)
    else namesF l (ns ++ [r.name.text])

/-- The parts of one rule: the terminals so far, the productions so far, the part's symbols so far, where the part begins. -/
def partsF (nons : List (List UInt8)) (left : Int) : List Tok → List (List UInt8) → List (Int × List Int) → List Int → Tok → (List (List UInt8) × List (Int × List Int)) ⊕ (Nat × Nat × Nat)
  | [], ts, ps, _, _ => .inl (ts, ps)
  | t :: l, ts, ps, r, b =>
    if t.kind = 1 ∨ t.kind = 2 then
      if 6 ≤ r.length then .inr (t.line, t.col, 5)
      else if t.kind = 1 then
        match idx nons t.text with
        | none => .inr (t.line, t.col, 3)
        | some k => partsF nons left l ts ps (r ++ [((100 + k : Nat) : Int)]) b
      else
        match idx ts t.text with
        | some k => partsF nons left l ts ps (r ++ [((k + 1 : Nat) : Int)]) b
        | none => if 8 ≤ ts.length then .inr (t.line, t.col, 5) else partsF nons left l (ts ++ [t.text]) ps (r ++ [((ts.length + 1 : Nat) : Int)]) b
    else if 24 ≤ ps.length then .inr (b.line, b.col, 5)
    else if (left, r) ∈ ps then .inr (b.line, b.col, 4)
    else partsF nons left l ts (ps ++ [(left, r)]) [] (l.headD b)

/-- All rules' parts, from the rule numbered i on. -/
def bodiesF (nons : List (List UInt8)) : List Ru → Nat → List (List UInt8) → List (Int × List Int) → (List (List UInt8) × List (Int × List Int)) ⊕ (Nat × Nat × Nat)
  | [], _, ts, ps => .inl (ts, ps)
  | r :: l, i, ts, ps =>
    match partsF nons ((100 + i : Nat) : Int) r.rest ts ps [] (r.rest.headD r.name) with
    | .inr e => .inr e
    | .inl (ts', ps') => bodiesF nons l (i + 1) ts' ps'

/-- A text as a grammar. -/
def parse (t : List UInt8) : End :=
  if (txt t 1).2 ≠ (0, 0) then .bad (txt t 1).2.1 (txt t 1).2.2 2
  else match (ruleF (txt t 1).1 .start).2 with
  | some b => .bad b.line b.col 2
  | none =>
    if (ruleF (txt t 1).1 .start).1 = [] then .bad 0 0 2
    else match namesF (ruleF (txt t 1).1 .start).1 [] with
    | .inr (a, b, e) => .bad a b e
    | .inl ns =>
      match bodiesF ns (ruleF (txt t 1).1 .start).1 0 [] [] with
      | .inr (a, b, e) => .bad a b e
      | .inl (ts, ps) => if ts = [] then .bad 0 0 2 else .ok ⟨ts, ns, ps⟩

end Go.Proofs.YtejjdfmobiegdaaDoor.Doc

namespace Go.Proofs.YtejjdfmobiegdaaDoor.Doc

abbrev Bare := Nat × List UInt8
def bare (t : Tok) : Bare := (t.kind, t.text)

inductive AtB where
  | start
  | named (n : List UInt8)
  | parts (n : List UInt8) (l : List Bare)

def At.bare : At → AtB
  | .start => .start
  | .named t => .named t.text
  | .parts t l => .parts t.text (l.map Doc.bare)

def ruleB : List Bare → AtB → Option (List (List UInt8 × List Bare))
  | [], _ => some []
  | t :: l, .start => if t.1 = 5 then ruleB l .start else if t.1 = 1 then ruleB l (.named t.2) else none
  | t :: l, .named n => if t.1 = 3 then ruleB l (.parts n []) else none
  | t :: l, .parts n r => if t.1 = 3 then none else if t.1 = 5 then (ruleB l .start).map ((n, r ++ [t]) :: ·) else ruleB l (.parts n (r ++ [t]))

def Ru.bare (r : Ru) : List UInt8 × List Bare := (r.name.text, r.rest.map Doc.bare)

theorem rule_bare : ∀ (l : List Tok) (a : At), ruleB (l.map bare) a.bare = if (ruleF l a).2 = none then some ((ruleF l a).1.map Ru.bare) else none
  | [], a => by cases a <;> rfl
  | t :: l, .start => by
    have ih1 := rule_bare l .start
    have ih2 := rule_bare l (.named t)
    simp only [List.map_cons, At.bare, ruleB, ruleF, bare]
    by_cases h5 : t.kind = 5
    · simp only [h5, if_true]; exact ih1
    · by_cases h1 : t.kind = 1
      · simp only [h1]; exact ih2
      · simp [h5, h1]
  | t :: l, .named n => by
    have ih := rule_bare l (.parts n [])
    simp only [List.map_cons, At.bare, ruleB, ruleF, bare]
    by_cases h3 : t.kind = 3
    · simp only [h3, if_true]; exact ih
    · simp [h3]
  | t :: l, .parts n r => by
    have ih1 := rule_bare l .start
    have ih2 := rule_bare l (.parts n (r ++ [t]))
    simp only [List.map_cons, At.bare, ruleB, ruleF, bare]
    by_cases h3 : t.kind = 3
    · simp [h3]
    · by_cases h5 : t.kind = 5
      · simp only [h5]
        simp only [At.bare] at ih1
        rw [show ruleB (List.map bare l) AtB.start = _ from ih1]
        by_cases hn : (ruleF l .start).2 = none
        · simp [hn, Ru.bare, bare, h5]
        · simp [hn]
      · simp only [if_neg h3, if_neg h5]
        rw [show (List.map Doc.bare r ++ [(t.kind, t.text)]) = (r ++ [t]).map Doc.bare by simp [bare]]
        exact ih2

def namesB : List (List UInt8) → List (List UInt8) → Option (List (List UInt8))
  | [], ns => some ns
  | n :: l, ns => if (idx ns n).isSome then none else if 8 ≤ ns.length then none else namesB l (ns ++ [n])

theorem names_bare : ∀ (l : List Ru) (ns : List (List UInt8)), namesB (l.map fun r => r.name.text) ns = match namesF l ns with | .inl x => some x | .inr _ => none
  | [], ns => rfl
  | r :: l, ns => by
    have ih := names_bare l (ns ++ [r.name.text])
    simp only [List.map_cons, namesB, namesF]
    split
    · rfl
    · split
      · rfl
      · exact ih

def partsB (nons : List (List UInt8)) (left : Int) : List Bare → List (List UInt8) → List (Int × List Int) → List Int → Option (List (List UInt8) × List (Int × List Int))
  | [], ts, ps, _ => some (ts, ps)
  | t :: l, ts, ps, r =>
    if t.1 = 1 ∨ t.1 = 2 then
      if 6 ≤ r.length then none
      else if t.1 = 1 then
        match idx nons t.2 with
        | none => none
        | some k => partsB nons left l ts ps (r ++ [((100 + k : Nat) : Int)])
      else
        match idx ts t.2 with
        | some k => partsB nons left l ts ps (r ++ [((k + 1 : Nat) : Int)])
        | none => if 8 ≤ ts.length then none else partsB nons left l (ts ++ [t.2]) ps (r ++ [((ts.length + 1 : Nat) : Int)])
    else if 24 ≤ ps.length then none
    else if (left, r) ∈ ps then none
    else partsB nons left l ts (ps ++ [(left, r)]) []

theorem parts_bare (nons : List (List UInt8)) (left : Int) : ∀ (l : List Tok) (ts : List (List UInt8)) (ps : List (Int × List Int)) (r : List Int) (b : Tok),
    partsB nons left (l.map bare) ts ps r = match partsF nons left l ts ps r b with | .inl x => some x | .inr _ => none
  | [], ts, ps, r, b => rfl
  | t :: l, ts, ps, r, b => by
    simp only [List.map_cons, partsB, partsF, bare]
    by_cases h : t.kind = 1 ∨ t.kind = 2
    · simp only [if_pos h]
      by_cases h6 : 6 ≤ r.length
      · simp [h6]
      · simp only [if_neg h6]
        by_cases h1 : t.kind = 1
        · simp only [if_pos h1]
          cases idx nons t.text with
          | none => rfl
          | some k => exact parts_bare nons left l ts ps _ b
        · simp only [if_neg h1]
          cases idx ts t.text with
          | none =>
            by_cases h8 : 8 ≤ ts.length
            · simp [h8]
            · simp only [if_neg h8]; exact parts_bare nons left l _ ps _ b
          | some k => exact parts_bare nons left l ts ps _ b
    · simp only [if_neg h]
      by_cases h24 : 24 ≤ ps.length
      · simp [h24]
      · simp only [if_neg h24]
        by_cases hm : (left, r) ∈ ps
        · simp [hm]
        · simp only [if_neg hm]; exact parts_bare nons left l ts _ [] _

def bodiesB (nons : List (List UInt8)) : List (List UInt8 × List Bare) → Nat → List (List UInt8) → List (Int × List Int) → Option (List (List UInt8) × List (Int × List Int))
  | [], _, ts, ps => some (ts, ps)
  | r :: l, i, ts, ps =>
    match partsB nons ((100 + i : Nat) : Int) r.2 ts ps [] with
    | none => none
    | some x => bodiesB nons l (i + 1) x.1 x.2

theorem bodies_bare (nons : List (List UInt8)) : ∀ (l : List Ru) (i : Nat) (ts : List (List UInt8)) (ps : List (Int × List Int)),
    bodiesB nons (l.map Ru.bare) i ts ps = match bodiesF nons l i ts ps with | .inl x => some x | .inr _ => none
  | [], _, _, _ => rfl
  | r :: l, i, ts, ps => by
    have h := parts_bare nons ((100 + i : Nat) : Int) r.rest ts ps [] (r.rest.headD r.name)
    simp only [List.map_cons, bodiesB, bodiesF, Ru.bare]
    rw [h]
    cases partsF nons ((100 + i : Nat) : Int) r.rest ts ps [] (r.rest.headD r.name) with
    | inr e => rfl
    | inl x => exact bodies_bare nons l (i + 1) x.1 x.2

def parseB (l : List Bare) : Option Gr :=
  match ruleB l .start with
  | none => none
  | some rs => if rs = [] then none else
    match namesB (rs.map (·.1)) [] with
    | none => none
    | some ns => match bodiesB ns rs 0 [] [] with
      | none => none
      | some x => if x.1 = [] then none else some ⟨x.1, ns, x.2⟩

/-- Reading ends well just if nothing is wrong in its tokens, and they read as that grammar. -/
theorem parse_iff (t : List UInt8) (g : Gr) : parse t = .ok g ↔ (txt t 1).2 = (0, 0) ∧ parseB ((txt t 1).1.map bare) = some g := by
  unfold parse parseB
  by_cases h0 : (txt t 1).2 = (0, 0)
  · rw [if_neg (by simpa using h0)]
    have hr := rule_bare (txt t 1).1 .start
    simp only [At.bare] at hr
    rw [hr]
    cases hb : (ruleF (txt t 1).1 .start).2 with
    | some b => simp
    | none =>
      simp only [if_true]
      generalize (ruleF (txt t 1).1 .start).1 = rs
      by_cases he : rs = []
      · subst he; simp
      · have he2 : ¬ rs.map Ru.bare = [] := by simpa using he
        simp only [if_neg he, if_neg he2]
        have hn := names_bare rs []
        have hm : (rs.map Ru.bare).map (·.1) = rs.map fun r => r.name.text := by simp [Ru.bare]
        rw [hm, hn]
        cases namesF rs [] with
        | inr e => simp
        | inl ns =>
          simp only []
          have hbo := bodies_bare ns rs 0 [] []
          rw [hbo]
          cases bodiesF ns rs 0 [] [] with
          | inr e => simp
          | inl x =>
            obtain ⟨a, b⟩ := x
            simp only []
            by_cases ha : a = []
            · simp [ha]
            · simp [ha, h0]
  · rw [if_pos (by simpa using h0)]
    simp [h0]

end Go.Proofs.YtejjdfmobiegdaaDoor.Doc

namespace Go.Proofs.YtejjdfmobiegdaaDoor.Doc

/-- A symbol that there is. -/
def symOk (nt nn : Nat) (s : Int) : Prop := (1 ≤ s ∧ s ≤ nt) ∨ (100 ≤ s ∧ s < 100 + nn)
theorem symOk.more {nt nt' nn : Nat} {s : Int} (h : symOk nt nn s) (hn : nt ≤ nt') : symOk nt' nn s := by
  unfold symOk at *; omega

/-- The terminals of a row come in order, behind the first n: how many there are then. -/
def ordRow : Nat → List Int → Option Nat
  | n, [] => some n
  | n, s :: l => if 100 ≤ s then ordRow n l else if s = n + 1 then ordRow (n + 1) l else if 1 ≤ s ∧ s ≤ n then ordRow n l else none
def ordRows : Nat → List (List Int) → Option Nat
  | n, [] => some n
  | n, r :: l => (ordRow n r).bind fun m => ordRows m l

theorem ordRow_append : ∀ (a b : List Int) (n : Nat), ordRow n (a ++ b) = (ordRow n a).bind fun m => ordRow m b
  | [], b, n => rfl
  | s :: a, b, n => by
    simp only [List.cons_append, ordRow]
    split
    · exact ordRow_append a b n
    · split
      · exact ordRow_append a b (n + 1)
      · split
        · exact ordRow_append a b n
        · rfl
theorem ordRows_append : ∀ (a b : List (List Int)) (n : Nat), ordRows n (a ++ b) = (ordRows n a).bind fun m => ordRows m b
  | [], b, n => rfl
  | r :: a, b, n => by
    simp only [List.cons_append, ordRows]
    cases ordRow n r with
    | none => rfl
    | some m => exact ordRows_append a b m
theorem ordRows_one (n : Nat) (r : List Int) : ordRows n [r] = ordRow n r := by
  simp only [ordRows]; cases ordRow n r <;> rfl

/-- Where one stands in reading parts. -/
structure V (nn : Nat) (ts : List (List UInt8)) (ps : List (Int × List Int)) (r : List Int) : Prop where
  tn : ts.Nodup
  tl : ts.length ≤ 8
  tk : ∀ x ∈ ts, kindOf x = 2
  pn : ps.Nodup
  pl : ps.length ≤ 24
  pv : ∀ p ∈ ps, p.2.length ≤ 6 ∧ ∀ s ∈ p.2, symOk ts.length nn s
  rl : r.length ≤ 6
  rv : ∀ s ∈ r, symOk ts.length nn s
  ord : ordRows 0 (ps.map (·.2) ++ [r]) = some ts.length

theorem idx_some {l : List (List UInt8)} {s : List UInt8} {k : Nat} (h : idx l s = some k) : l[k]? = some s := by
  unfold idx at h
  obtain ⟨hk, h1, _⟩ := List.findIdx?_eq_some_iff_getElem.1 h
  rw [List.getElem?_eq_getElem hk]
  simpa using h1
theorem idx_none {l : List (List UInt8)} {s : List UInt8} (h : idx l s = none) : s ∉ l := by
  unfold idx at h
  rw [List.findIdx?_eq_none_iff] at h
  intro hm
  simpa using h s hm
theorem nodup_at : ∀ {l : List (List UInt8)}, l.Nodup → ∀ {i j : Nat} (h1 : i < l.length) (h2 : j < l.length), l[i] = l[j] → i = j
  | [], _, i, _, h1, _, _ => by simp at h1
  | x :: l, hn, 0, 0, _, _, _ => rfl
  | x :: l, hn, 0, j + 1, _, h2, e => by
    simp only [List.getElem_cons_zero, List.getElem_cons_succ] at e
    exact absurd (e ▸ List.getElem_mem _) (List.nodup_cons.1 hn).1
  | x :: l, hn, i + 1, 0, h1, _, e => by
    simp only [List.getElem_cons_zero, List.getElem_cons_succ] at e
    exact absurd (e ▸ List.getElem_mem _) (List.nodup_cons.1 hn).1
  | x :: l, hn, i + 1, j + 1, h1, h2, e => by
    simp only [List.getElem_cons_succ] at e
    rw [nodup_at (List.nodup_cons.1 hn).2 (by simpa using h1) (by simpa using h2) e]
theorem idx_at {l : List (List UInt8)} (hn : l.Nodup) {k : Nat} {s : List UInt8} (h : l[k]? = some s) : idx l s = some k := by
  cases hi : idx l s with
  | none => exact absurd (List.mem_of_getElem? h) (idx_none hi)
  | some j =>
    have hj := idx_some hi
    have : j = k := by
      obtain ⟨h1, e1⟩ := List.getElem?_eq_some_iff.1 hj
      obtain ⟨h2, e2⟩ := List.getElem?_eq_some_iff.1 h
      exact nodup_at hn h1 h2 (e1.trans e2.symm)
    rw [this]
theorem idx_out {l : List (List UInt8)} {s : List UInt8} (h : s ∉ l) : idx l s = none := by
  cases hi : idx l s with
  | none => rfl
  | some j => exact absurd (List.mem_of_getElem? (idx_some hi)) h

theorem V.sym {nn : Nat} {ts : List (List UInt8)} {ps : List (Int × List Int)} {r : List Int} (h : V nn ts ps r) (h6 : ¬ 6 ≤ r.length) (s : Int) (hs : symOk ts.length nn s) (ho : ordRow ts.length [s] = some ts.length) : V nn ts ps (r ++ [s]) where
  tn := h.tn
  tl := h.tl
  tk := h.tk
  pn := h.pn
  pl := h.pl
  pv := h.pv
  rl := by simp; omega
  rv := by
    intro x hx
    rcases List.mem_append.1 hx with hx | hx
    · exact h.rv x hx
    · rw [List.mem_singleton.1 hx]; exact hs
  ord := by
    have h1 := h.ord
    rw [ordRows_append] at h1 ⊢
    cases hm : ordRows 0 (ps.map (·.2)) with
    | none => rw [hm] at h1; cases h1
    | some m =>
      rw [hm] at h1
      simp only [Option.bind_some, ordRows_one] at h1 ⊢
      rw [ordRow_append, h1]
      exact ho

theorem V.new {nn : Nat} {ts : List (List UInt8)} {ps : List (Int × List Int)} {r : List Int} (h : V nn ts ps r) (h6 : ¬ 6 ≤ r.length) (h8 : ¬ 8 ≤ ts.length) (x : List UInt8) (hx : x ∉ ts) (hk : kindOf x = 2) : V nn (ts ++ [x]) ps (r ++ [((ts.length + 1 : Nat) : Int)]) where
  tn := by
    rw [List.nodup_append]
    refine ⟨h.tn, by simp, ?_⟩
    intro a ha b hb
    rw [List.mem_singleton.1 hb]
    rintro rfl
    exact hx ha
  tl := by simp; omega
  tk := by
    intro y hy
    rcases List.mem_append.1 hy with hy | hy
    · exact h.tk y hy
    · rw [List.mem_singleton.1 hy]; exact hk
  pn := h.pn
  pl := h.pl
  pv := fun p hp => ⟨(h.pv p hp).1, fun s hs => ((h.pv p hp).2 s hs).more (by simp)⟩
  rl := by simp; omega
  rv := by
    intro y hy
    rcases List.mem_append.1 hy with hy | hy
    · exact (h.rv y hy).more (by simp)
    · rw [List.mem_singleton.1 hy]; left; simp; omega
  ord := by
    have h1 := h.ord
    rw [ordRows_append] at h1 ⊢
    cases hm : ordRows 0 (ps.map (·.2)) with
    | none => rw [hm] at h1; cases h1
    | some m =>
      rw [hm] at h1
      simp only [Option.bind_some, ordRows_one] at h1 ⊢
      rw [ordRow_append, h1]
      have h8' := h.tl
      simp only [Option.bind_some, ordRow]
      rw [if_neg (by omega), if_pos (by simp)]
      simp

theorem V.part {nn : Nat} {ts : List (List UInt8)} {ps : List (Int × List Int)} {r : List Int} (h : V nn ts ps r) (left : Int) (h24 : ¬ 24 ≤ ps.length) (hm : (left, r) ∉ ps) : V nn ts (ps ++ [(left, r)]) [] where
  tn := h.tn
  tl := h.tl
  tk := h.tk
  pn := by
    rw [List.nodup_append]
    refine ⟨h.pn, by simp, ?_⟩
    intro a ha b hb
    rw [List.mem_singleton.1 hb]
    rintro rfl
    exact hm ha
  pl := by simp; omega
  pv := by
    intro p hp
    rcases List.mem_append.1 hp with hp | hp
    · exact h.pv p hp
    · rw [List.mem_singleton.1 hp]; exact ⟨h.rl, h.rv⟩
  rl := by simp
  rv := by simp
  ord := by
    have h1 := h.ord
    rw [List.map_append, List.map_cons, List.map_nil, ordRows_append, h1]
    rfl

/-- What reading the parts of a rule leaves. -/
theorem parts_V (nons : List (List UInt8)) (left : Int) : ∀ (l : List Bare) (ts : List (List UInt8)) (ps : List (Int × List Int)) (r : List Int) (x : List (List UInt8) × List (Int × List Int)),
    partsB nons left l ts ps r = some x → (∀ t ∈ l, t.1 = 2 → kindOf t.2 = 2) → nons.length ≤ 8 → V nons.length ts ps r → (l = [] → r = []) → (∀ t, l.getLast? = some t → ¬ (t.1 = 1 ∨ t.1 = 2)) →
    V nons.length x.1 x.2 [] ∧ ∃ new : List (List Int), x.2 = ps ++ new.map (fun r => (left, r)) ∧ (l ≠ [] → new ≠ [])
  | [], ts, ps, r, x, h, _, _, hv, hr, _ => by
    simp only [partsB, Option.some.injEq] at h
    subst h
    rw [hr rfl] at hv
    exact ⟨hv, [], by simp, by simp⟩
  | t :: l, ts, ps, r, x, h, hk, hn8, hv, _, hlast => by
    have hk' : ∀ u ∈ l, u.1 = 2 → kindOf u.2 = 2 := fun u hu => hk u (List.mem_cons_of_mem _ hu)
    have hlast' : ∀ u, l.getLast? = some u → ¬ (u.1 = 1 ∨ u.1 = 2) := fun u hu => hlast u (by rw [List.getLast?_cons, hu]; rfl)
    simp only [partsB] at h
    by_cases h12 : t.1 = 1 ∨ t.1 = 2
    · have hne : l ≠ [] := by
        rintro rfl
        exact hlast t rfl h12
      rw [if_pos h12] at h
      by_cases h6 : 6 ≤ r.length
      · rw [if_pos h6] at h; cases h
      rw [if_neg h6] at h
      by_cases h1 : t.1 = 1
      · rw [if_pos h1] at h
        cases hi : idx nons t.2 with
        | none => rw [hi] at h; cases h
        | some k =>
          rw [hi] at h
          have hkl : k < nons.length := (List.getElem?_eq_some_iff.1 (idx_some hi)).1
          obtain ⟨hV, new, hnew, hne2⟩ := parts_V nons left l ts ps _ x h hk' hn8 (hv.sym h6 _ (.inr (by omega)) (by simp only [ordRow]; rw [if_pos (by omega)])) (fun e => absurd e hne) hlast'
          exact ⟨hV, new, hnew, fun _ => hne2 hne⟩
      · rw [if_neg h1] at h
        have h2 : t.1 = 2 := h12.resolve_left h1
        cases hi : idx ts t.2 with
        | some k =>
          rw [hi] at h
          have hkl : k < ts.length := (List.getElem?_eq_some_iff.1 (idx_some hi)).1
          have htl := hv.tl
          obtain ⟨hV, new, hnew, hne2⟩ := parts_V nons left l ts ps _ x h hk' hn8 (hv.sym h6 _ (.inl (by omega)) (by simp only [ordRow]; rw [if_neg (by omega), if_neg (by omega), if_pos (by omega)])) (fun e => absurd e hne) hlast'
          exact ⟨hV, new, hnew, fun _ => hne2 hne⟩
        | none =>
          rw [hi] at h
          by_cases h8 : 8 ≤ ts.length
          · simp only [if_pos h8] at h; cases h
          · simp only [if_neg h8] at h
            obtain ⟨hV, new, hnew, hne2⟩ := parts_V nons left l _ ps _ x h hk' hn8 (hv.new h6 h8 t.2 (idx_none hi) (hk t List.mem_cons_self h2)) (fun e => absurd e hne) hlast'
            exact ⟨hV, new, hnew, fun _ => hne2 hne⟩
    · rw [if_neg h12] at h
      by_cases h24 : 24 ≤ ps.length
      · rw [if_pos h24] at h; cases h
      rw [if_neg h24] at h
      by_cases hm : (left, r) ∈ ps
      · rw [if_pos hm] at h; cases h
      rw [if_neg hm] at h
      obtain ⟨hV, new, hnew, _⟩ := parts_V nons left l ts _ [] x h hk' hn8 (hv.part left h24 hm) (fun _ => rfl) hlast'
      exact ⟨hV, r :: new, by rw [hnew]; simp, fun _ => by simp⟩

end Go.Proofs.YtejjdfmobiegdaaDoor.Doc

namespace Go.Proofs.YtejjdfmobiegdaaDoor.Doc

theorem rule_shape (Q : Bare → Prop) (N : List UInt8 → Prop) (hN : ∀ t, Q t → t.1 = 1 → N t.2) : ∀ (l : List Bare) (a : AtB) (rs : List (List UInt8 × List Bare)), ruleB l a = some rs → (∀ t ∈ l, Q t) →
    (match a with | .start => True | .named n => N n | .parts n r => N n ∧ ∀ t ∈ r, Q t) → ∀ x ∈ rs, N x.1 ∧ (∃ t, x.2.getLast? = some t ∧ t.1 = 5) ∧ ∀ t ∈ x.2, Q t
  | [], a, rs, h, _, _, x, hx => by
    cases a <;> simp only [ruleB, Option.some.injEq] at h <;> subst h <;> simp at hx
  | t :: l, .start, rs, h, hq, _, x, hx => by
    have hq' : ∀ u ∈ l, Q u := fun u hu => hq u (List.mem_cons_of_mem _ hu)
    simp only [ruleB] at h
    split at h
    · exact rule_shape Q N hN l .start rs h hq' trivial x hx
    · split at h
      · rename_i h1
        exact rule_shape Q N hN l (.named t.2) rs h hq' (hN t (hq t List.mem_cons_self) h1) x hx
      · cases h
  | t :: l, .named n, rs, h, hq, hn, x, hx => by
    have hq' : ∀ u ∈ l, Q u := fun u hu => hq u (List.mem_cons_of_mem _ hu)
    simp only [ruleB] at h
    split at h
    · exact rule_shape Q N hN l (.parts n []) rs h hq' ⟨hn, by simp⟩ x hx
    · cases h
  | t :: l, .parts n r, rs, h, hq, hn, x, hx => by
    have hq' : ∀ u ∈ l, Q u := fun u hu => hq u (List.mem_cons_of_mem _ hu)
    have hr : ∀ u ∈ r ++ [t], Q u := fun u hu => by
      rcases List.mem_append.1 hu with hu | hu
      · exact hn.2 u hu
      · rw [List.mem_singleton.1 hu]; exact hq t List.mem_cons_self
    simp only [ruleB] at h
    split at h
    · cases h
    · split at h
      · rename_i h5
        cases hs : ruleB l .start with
        | none => rw [hs] at h; cases h
        | some rs' =>
          rw [hs] at h
          simp only [Option.map_some, Option.some.injEq] at h
          subst h
          rcases List.mem_cons.1 hx with rfl | hx
          · exact ⟨hn.1, ⟨t, by simp, h5⟩, hr⟩
          · exact rule_shape Q N hN l .start rs' hs hq' trivial x hx
      · exact rule_shape Q N hN l (.parts n (r ++ [t])) rs h hq' ⟨hn.1, hr⟩ x hx

theorem names_good : ∀ (l ns x : List (List UInt8)), namesB l ns = some x → ns.Nodup → ns.length ≤ 8 → x = ns ++ l ∧ x.Nodup ∧ x.length ≤ 8
  | [], ns, x, h, hn, hl => by
    simp only [namesB, Option.some.injEq] at h
    subst h
    exact ⟨by simp, hn, hl⟩
  | n :: l, ns, x, h, hn, hl => by
    simp only [namesB] at h
    split at h
    · cases h
    · rename_i hi
      split at h
      · cases h
      · rename_i h8
        have hm : n ∉ ns := by
          cases hx : idx ns n with
          | none => exact idx_none hx
          | some k => rw [hx] at hi; simp at hi
        obtain ⟨h1, h2, h3⟩ := names_good l (ns ++ [n]) x h (by
          rw [List.nodup_append]
          refine ⟨hn, by simp, ?_⟩
          intro a ha b hb
          rw [List.mem_singleton.1 hb]
          rintro rfl
          exact hm ha) (by simp; omega)
        exact ⟨by rw [h1]; simp, h2, h3⟩

/-- Productions by their left: rows of rows, from the left numbered i on. -/
def lay : Nat → List (List (List Int)) → List (Int × List Int)
  | _, [] => []
  | i, r :: l => r.map (fun x => (((100 + i : Nat) : Int), x)) ++ lay (i + 1) l

theorem bodies_good (nons : List (List UInt8)) (hn8 : nons.length ≤ 8) : ∀ (rs : List (List UInt8 × List Bare)) (i : Nat) (ts : List (List UInt8)) (ps : List (Int × List Int)) (x : List (List UInt8) × List (Int × List Int)),
    bodiesB nons rs i ts ps = some x → (∀ r ∈ rs, (∃ t, r.2.getLast? = some t ∧ t.1 = 5) ∧ ∀ t ∈ r.2, t.1 = 2 → kindOf t.2 = 2) → V nons.length ts ps [] →
    V nons.length x.1 x.2 [] ∧ ∃ rows : List (List (List Int)), rows.length = rs.length ∧ (∀ r ∈ rows, r ≠ []) ∧ x.2 = ps ++ lay i rows
  | [], i, ts, ps, x, h, _, hv => by
    simp only [bodiesB, Option.some.injEq] at h
    subst h
    exact ⟨hv, [], rfl, by simp, by simp [lay]⟩
  | r :: rs, i, ts, ps, x, h, hr, hv => by
    simp only [bodiesB] at h
    cases hp : partsB nons ((100 + i : Nat) : Int) r.2 ts ps [] with
    | none => rw [hp] at h; cases h
    | some y =>
      rw [hp] at h
      obtain ⟨⟨t, ht, h5⟩, hk⟩ := hr r List.mem_cons_self
      have hne : r.2 ≠ [] := by rintro e; rw [e] at ht; cases ht
      obtain ⟨hV, new, hnew, hnn⟩ := parts_V nons _ r.2 ts ps [] y hp hk hn8 hv (fun _ => rfl) (fun u hu => by rw [ht] at hu; cases hu; omega)
      obtain ⟨hV2, rows, h1, h2, h3⟩ := bodies_good nons hn8 rs (i + 1) y.1 y.2 x h (fun q hq => hr q (List.mem_cons_of_mem _ hq)) hV
      refine ⟨hV2, new :: rows, by simp [h1], ?_, by rw [h3, hnew]; simp [lay]⟩
      intro q hq
      rcases List.mem_cons.1 hq with rfl | hq
      · exact hnn hne
      · exact h2 q hq

/-- A good grammar. -/
structure Good (g : Gr) : Prop where
  tp : g.terms ≠ []
  v : V g.nons.length g.terms g.prods []
  np : g.nons ≠ []
  nn : g.nons.Nodup
  nl : g.nons.length ≤ 8
  nk : ∀ x ∈ g.nons, kindOf x = 1
  rows : ∃ rows : List (List (List Int)), rows.length = g.nons.length ∧ (∀ r ∈ rows, r ≠ []) ∧ g.prods = lay 0 rows

/-- A token as scan tells it. -/
def Fair (t : Bare) : Prop := (t.1 = 1 → kindOf t.2 = 1) ∧ (t.1 = 2 → kindOf t.2 = 2)

theorem parse_good (l : List Bare) (g : Gr) (h : parseB l = some g) (hl : ∀ t ∈ l, Fair t) : Good g := by
  unfold parseB at h
  cases hr : ruleB l .start with
  | none => rw [hr] at h; cases h
  | some rs =>
    rw [hr] at h
    simp only at h
    split at h
    · cases h
    · rename_i hne
      have hsh := rule_shape Fair (fun n => kindOf n = 1) (fun t ht h1 => ht.1 h1) l .start rs hr hl trivial
      cases hn : namesB (rs.map (·.1)) [] with
      | none => rw [hn] at h; cases h
      | some ns =>
        rw [hn] at h
        simp only at h
        obtain ⟨e1, n1, n2⟩ := names_good _ [] ns hn (by simp) (by simp)
        simp only [List.nil_append] at e1
        cases hb : bodiesB ns rs 0 [] [] with
        | none => rw [hb] at h; cases h
        | some x =>
          rw [hb] at h
          simp only at h
          split at h
          · cases h
          · rename_i hx
            simp only [Option.some.injEq] at h
            subst h
            obtain ⟨hV, rows, r1, r2, r3⟩ := bodies_good ns n2 rs 0 [] [] x hb (fun r hr => ⟨(hsh r hr).2.1, fun t ht => ((hsh r hr).2.2 t ht).2⟩)
              ⟨by simp, by simp, by simp, by simp, by simp, by simp, by simp, by simp, rfl⟩
            refine ⟨hx, hV, by rw [e1]; simpa using hne, n1, n2, ?_, rows, by rw [r1, e1]; simp, r2, by simpa using r3⟩
            intro y hy
            rw [e1] at hy
            obtain ⟨r, hr, rfl⟩ := List.mem_map.1 hy
            exact (hsh r hr).1

end Go.Proofs.YtejjdfmobiegdaaDoor.Doc

namespace Go.Proofs.YtejjdfmobiegdaaDoor
open Doc

def cnt (l : List UInt8) : Nat := (l.filter (· == 10)).length
theorem cnt_append (a b : List UInt8) : cnt (a ++ b) = cnt a + cnt b := by simp [cnt]
theorem cnt_none {a : List UInt8} (h : ∀ c ∈ a, c ≠ 10) : cnt a = 0 := by
  unfold cnt
  rw [List.length_eq_zero_iff, List.filter_eq_nil_iff]
  intro c hc
  simpa using h c hc

/-- Further lines on. -/
def down (n : Nat) (t : Tok) : Tok := ⟨t.kind, t.text, t.line + n, t.col⟩
/-- Further columns on. -/
def along (n : Nat) (t : Tok) : Tok := ⟨t.kind, t.text, t.line, t.col + n⟩

theorem lin_down (k : Nat) : ∀ (n : Nat) (l : List UInt8) (line col : Nat), l.length ≤ n → lin l (line + k) col = ((lin l line col).1.map (down k), (lin l line col).2)
  | _, [], _, _, _ => by simp [lin_nil]
  | 0, c :: l, _, _, h => by simp at h
  | n + 1, c :: l, line, col, h => by
    rw [lin_cons, lin_cons]
    by_cases h0 : (piece c l).1 = 0
    · simp [h0]
    · have hp := piece_pos c l h0
      have hd : ((c :: l).drop (piece c l).2).length ≤ n := by rw [List.length_drop]; simp only [List.length_cons] at *; omega
      have ih := lin_down k n ((c :: l).drop (piece c l).2) line (col + (piece c l).2) hd
      rw [ih]
      by_cases h9 : (piece c l).1 = 9
      · simp [h9]
      · simp [h0, h9, down]

theorem lin_along (k : Nat) : ∀ (n : Nat) (l : List UInt8) (line col : Nat), l.length ≤ n → lin l line (col + k) = ((lin l line col).1.map (along k), if (lin l line col).2 = 0 ∧ True then 0 else (lin l line col).2 + k) ∨ col = 0
  | _, [], _, _, _ => by simp [lin_nil]
  | 0, c :: l, _, _, h => by simp at h
  | n + 1, c :: l, line, col, h => by
    by_cases hc : col = 0
    · exact .inr hc
    left
    rw [lin_cons, lin_cons]
    by_cases h0 : (piece c l).1 = 0
    · simp [h0, hc]
    · have hp := piece_pos c l h0
      have hd : ((c :: l).drop (piece c l).2).length ≤ n := by rw [List.length_drop]; simp only [List.length_cons] at *; omega
      have ih := (lin_along k n ((c :: l).drop (piece c l).2) line (col + (piece c l).2) hd).resolve_right (by omega)
      rw [show col + k + (piece c l).2 = col + (piece c l).2 + k by omega, ih]
      by_cases h9 : (piece c l).1 = 9
      · simp [h9]
      · simp [h0, h9, along]

theorem txt_down (k : Nat) : ∀ (n : Nat) (t : List UInt8) (line : Nat), t.length ≤ n → 0 < line →
    (txt t (line + k)).1 = (txt t line).1.map (down k) ∧ (txt t (line + k)).2 = if (txt t line).2 = (0, 0) then (0, 0) else ((txt t line).2.1 + k, (txt t line).2.2)
  | _, [], _, _, _ => by simp [txt_nil]
  | 0, c :: l, _, h, _ => by simp at h
  | n + 1, c :: l, line, h, hl => by
    have hr := rest_lt c l
    have ih := txt_down k n (rest (c :: l)) (line + 1) (by omega) (by omega)
    have hlin := lin_down k _ (head (c :: l)) line 1 (Nat.le_refl _)
    rw [txt_cons, txt_cons, hlin]
    by_cases h0 : (lin (head (c :: l)) line 1).2 = 0
    · simp only [h0, if_true]
      rw [show line + k + 1 = line + 1 + k by omega, ih.1, ih.2]
      refine ⟨by simp [down], rfl⟩
    · simp only [if_neg h0]
      refine ⟨by simp, ?_⟩
      rw [if_neg (by simp; omega)]

theorem head_app (a b : List UInt8) (h : ∀ c ∈ a, c ≠ 10) : head (a ++ 10 :: b) = a := by
  induction a with
  | nil => simp [head]
  | cons c a ih =>
    have hc := h c List.mem_cons_self
    have := ih fun d hd => h d (List.mem_cons_of_mem _ hd)
    unfold head at this ⊢
    simp [hc]
    simpa using this
theorem rest_app (a b : List UInt8) (h : ∀ c ∈ a, c ≠ 10) : rest (a ++ 10 :: b) = b := by
  induction a with
  | nil => simp [rest]
  | cons c a ih =>
    have hc := h c List.mem_cons_self
    have := ih fun d hd => h d (List.mem_cons_of_mem _ hd)
    unfold rest at this ⊢
    simp [hc]
    simpa using this

/-- A first line, and what follows. -/
theorem txt_line1 (a b : List UInt8) (h : ∀ c ∈ a, c ≠ 10) (line : Nat) : txt (a ++ 10 :: b) line =
    if (lin a line 1).2 = 0 then ((lin a line 1).1 ++ ⟨5, [], line, a.length + 1⟩ :: (txt b (line + 1)).1, (txt b (line + 1)).2) else ([], line, (lin a line 1).2) := by
  obtain ⟨c, l, hcl⟩ : ∃ c l, a ++ 10 :: b = c :: l := by cases a <;> exact ⟨_, _, rfl⟩
  have h1 := head_app a b h
  have h2 := rest_app a b h
  rw [hcl] at h1 h2 ⊢
  rw [txt_cons, h1, h2]

/-- A text is a line, and lines. -/
theorem lines_ind : ∀ (n : Nat) (A : List UInt8), A.length ≤ n → (∀ c ∈ A, c ≠ 10) ∨ ∃ a A', A = a ++ 10 :: A' ∧ (∀ c ∈ a, c ≠ 10) ∧ A'.length < A.length
  | _, [], _ => .inl (by simp)
  | 0, c :: l, h => by simp at h
  | n + 1, c :: l, h => by
    by_cases hc : c = 10
    · subst hc; exact .inr ⟨[], l, rfl, by simp, by simp⟩
    · rcases lines_ind n l (by simpa using h) with h1 | ⟨a, A', h1, h2, h3⟩
      · left
        intro d hd
        rcases List.mem_cons.1 hd with rfl | hd
        · exact hc
        · exact h1 d hd
      · right
        refine ⟨c :: a, A', by rw [h1]; rfl, ?_, by simp; omega⟩
        intro d hd
        rcases List.mem_cons.1 hd with rfl | hd
        · exact hc
        · exact h2 d hd

/-- Two texts, the first one ended. -/
theorem txt_two : ∀ (n : Nat) (A b : List UInt8) (line : Nat), A.length ≤ n → 0 < line →
    (if (txt (A ++ [10]) line).2 = (0, 0) then txt (A ++ 10 :: b) line = ((txt (A ++ [10]) line).1 ++ (txt b (line + cnt (A ++ [10]))).1, (txt b (line + cnt (A ++ [10]))).2)
     else (txt (A ++ 10 :: b) line).2 = (txt (A ++ [10]) line).2)
  | n, A, b, line, hn, hl => by
    rcases lines_ind A.length A (Nat.le_refl _) with h | ⟨a, A', h1, h2, h3⟩
    · rw [txt_line1 A b h, txt_line1 A [] h, cnt_append, cnt_none h]
      by_cases h0 : (lin A line 1).2 = 0
      · simp [h0, txt_nil, cnt]
      · simp [h0, show line ≠ 0 by omega]
    · obtain ⟨m, rfl⟩ : ∃ m, n = m + 1 := ⟨n - 1, by omega⟩
      have ih := txt_two m A' b (line + 1) (by omega) (by omega)
      subst h1
      rw [show a ++ 10 :: A' ++ [10] = a ++ 10 :: (A' ++ [10]) by simp, show a ++ 10 :: A' ++ 10 :: b = a ++ 10 :: (A' ++ 10 :: b) by simp,
        txt_line1 a (A' ++ 10 :: b) h2, txt_line1 a (A' ++ [10]) h2, show a ++ 10 :: (A' ++ [10]) = a ++ ([10] ++ (A' ++ [10])) by simp, cnt_append, cnt_none h2, cnt_append,
        show line + (0 + (cnt [10] + cnt (A' ++ [10]))) = line + 1 + cnt (A' ++ [10]) by simp [cnt]; omega]
      by_cases h0 : (lin a line 1).2 = 0
      · simp only [h0, if_true]
        by_cases hx : (txt (A' ++ [10]) (line + 1)).2 = (0, 0)
        · rw [if_pos hx] at ih ⊢
          rw [ih]
          simp
        · rw [if_neg hx] at ih ⊢
          exact ih
      · simp [h0, show line ≠ 0 by omega]

/-- Both are texts: both's tokens; one is none: nor are both. -/
theorem two_good (A b : List UInt8) (ha : (txt (A ++ [10]) 1).2 = (0, 0)) (hb : (txt b 1).2 = (0, 0)) :
    txt (A ++ 10 :: b) 1 = ((txt (A ++ [10]) 1).1 ++ (txt b 1).1.map (down (cnt (A ++ [10]))), 0, 0) := by
  have h := txt_two _ A b 1 (Nat.le_refl _) (by decide)
  have hd := txt_down (cnt (A ++ [10])) _ b 1 (Nat.le_refl _) (by decide)
  rw [if_pos ha] at h
  rw [if_pos hb] at hd
  rw [h, hd.1, hd.2]
theorem two_poor (A b : List UInt8) (h : (txt (A ++ [10]) 1).2 ≠ (0, 0) ∨ (txt b 1).2 ≠ (0, 0)) : (txt (A ++ 10 :: b) 1).2 ≠ (0, 0) := by
  have ht := txt_two _ A b 1 (Nat.le_refl _) (by decide)
  by_cases ha : (txt (A ++ [10]) 1).2 = (0, 0)
  · have hb := h.resolve_left (fun h => h ha)
    have hd := txt_down (cnt (A ++ [10])) _ b 1 (Nat.le_refl _) (by decide)
    rw [if_pos ha] at ht
    rw [if_neg hb] at hd
    rw [ht]
    show (txt b (1 + cnt (A ++ [10]))).2 ≠ (0, 0)
    rw [hd.2]
    intro h0
    simp only [Prod.mk.injEq] at h0
    exact hb (Prod.ext (by show _ = 0; omega) h0.2)
  · rw [if_neg ha] at ht
    rw [ht]
    exact ha

/-- Blanks ahead. -/
theorem lin_blanks (l : List UInt8) (line : Nat) : ∀ (j col : Nat), lin (List.replicate j 32 ++ l) line col = lin l line (col + j)
  | 0, col => by simp
  | j + 1, col => by
    rw [List.replicate_succ, List.cons_append, lin_cons]
    have hp : piece 32 (List.replicate j 32 ++ l) = (9, 1) := rfl
    rw [hp]
    simp only [if_true, List.drop_succ_cons, List.drop_zero]
    rw [lin_blanks l line j (col + 1)]
    simp [show col + 1 + j = col + (j + 1) by omega]

theorem end_line (B : List UInt8) : ∃ a B', B ++ [10] = a ++ 10 :: B' ∧ ∀ c ∈ a, c ≠ 10 := by
  rcases lines_ind B.length B (Nat.le_refl _) with h | ⟨a, A', h1, h2, _⟩
  · exact ⟨B, [], rfl, h⟩
  · exact ⟨a, A' ++ [10], by rw [h1]; simp, h2⟩

theorem blanks_ahead (B : List UInt8) (j : Nat) (h : (txt (B ++ [10]) 1).2 = (0, 0)) :
    ∃ m M c C, (txt (B ++ [10]) 1).1 = m :: M ∧ txt (List.replicate j 32 ++ (B ++ [10])) 1 = (c :: C, 0, 0) ∧ C.length = M.length ∧ c.col = m.col + j := by
  obtain ⟨a, B', hB, ha⟩ := end_line B
  have hb : ∀ c ∈ List.replicate j (32 : UInt8) ++ a, c ≠ 10 := by
    intro c hc
    rcases List.mem_append.1 hc with h | h
    · rw [List.eq_of_mem_replicate h]; decide
    · exact ha c h
  rw [hB] at h ⊢
  rw [txt_line1 a B' ha] at h ⊢
  rw [show List.replicate j 32 ++ (a ++ 10 :: B') = (List.replicate j 32 ++ a) ++ 10 :: B' by simp, txt_line1 _ B' hb, lin_blanks]
  have hal := (lin_along j _ a 1 1 (Nat.le_refl _)).resolve_right (by decide)
  by_cases h0 : (lin a 1 1).2 = 0
  · rw [if_pos h0] at h ⊢
    rw [hal]
    simp only [h0, and_self, if_true]
    rcases hl : (lin a 1 1).1 with _ | ⟨m, M⟩
    · exact ⟨_, _, _, _, rfl, by rw [h]; rfl, rfl, by simp; omega⟩
    · exact ⟨m, _, _, _, rfl, by rw [h]; rfl, by simp, rfl⟩
  · rw [if_neg h0] at h
    simp at h

/-- A remark's line ahead. -/
theorem remark_ahead (r b : List UInt8) (hr : ∀ c ∈ r, c ≠ 10) (h : (txt b 1).2 = (0, 0)) :
    txt ((35 :: r) ++ 10 :: b) 1 = (⟨5, [], 1, r.length + 2⟩ :: (txt b 1).1.map (down 1), 0, 0) := by
  have hno : ∀ c ∈ (35 :: r : List UInt8), c ≠ 10 := by
    intro c hc
    rcases List.mem_cons.1 hc with rfl | hc
    · decide
    · exact hr c hc
  have hl : lin (35 :: r) 1 1 = ([], 0) := by
    rw [lin_cons, show piece 35 r = (9, r.length + 1) from rfl]
    simp [lin_nil]
  have hd := txt_down 1 _ b 1 (Nat.le_refl _) (by decide)
  rw [if_pos h] at hd
  rw [txt_line1 _ b hno, hl]
  simp only [if_true, List.nil_append, List.length_cons, hd.1, hd.2]

end Go.Proofs.YtejjdfmobiegdaaDoor

namespace Go.Proofs.YtejjdfmobiegdaaDoor.Doc

/-- A symbol's name. -/
def symName (g : Gr) (s : Int) : List UInt8 := if 100 ≤ s then g.nons.getD (s - 100).toNat [] else g.terms.getD (s - 1).toNat []
def symTok (g : Gr) (s : Int) : Bare := if 100 ≤ s then (1, g.nons.getD (s - 100).toNat []) else (2, g.terms.getD (s - 1).toNat [])

/-- The tokens behind a rule's colon, the line's end with them. -/
def toksOf (g : Gr) : List (List Int) → List Bare
  | [] => [(5, [])]
  | [r] => r.map (symTok g) ++ [(5, [])]
  | r :: q :: l => r.map (symTok g) ++ (4, [124]) :: toksOf g (q :: l)

def linesB (g : Gr) : List (List UInt8) → List (List (List Int)) → List Bare
  | n :: ns, r :: rs => (1, n) :: (3, [58]) :: (toksOf g r ++ linesB g ns rs)
  | _, _ => []

def rulesOf (g : Gr) : List (List UInt8) → List (List (List Int)) → List (List UInt8 × List Bare)
  | n :: ns, r :: rs => (n, toksOf g r) :: rulesOf g ns rs
  | _, _ => []

theorem ordRow_le : ∀ (r : List Int) (n n' nt nn : Nat), ordRow n r = some n' → (∀ s ∈ r, symOk nt nn s) → n ≤ nt → n ≤ n' ∧ n' ≤ nt
  | [], n, n', _, _, h, _, hn => by simp only [ordRow, Option.some.injEq] at h; omega
  | s :: l, n, n', nt, nn, h, hs, hn => by
    have hs' : ∀ x ∈ l, symOk nt nn x := fun x hx => hs x (List.mem_cons_of_mem _ hx)
    have h0 := hs s List.mem_cons_self
    simp only [ordRow] at h
    split at h
    · exact ordRow_le l n n' nt nn h hs' hn
    · split at h
      · have : n + 1 ≤ nt := by unfold symOk at h0; omega
        have := ordRow_le l (n + 1) n' nt nn h hs' this
        omega
      · split at h
        · exact ordRow_le l n n' nt nn h hs' hn
        · cases h

theorem take_nodup {l : List (List UInt8)} (h : l.Nodup) (n : Nat) : (l.take n).Nodup := h.sublist (List.take_sublist n l)

theorem row_read (g : Gr) (left : Int) (tn : g.terms.Nodup) (tl : g.terms.length ≤ 8) (nn : g.nons.Nodup) (L : List Bare) (ps : List (Int × List Int)) : ∀ (r : List Int) (n n' : Nat) (r0 : List Int),
    ordRow n r = some n' → (∀ s ∈ r, symOk g.terms.length g.nons.length s) → n ≤ g.terms.length → r0.length + r.length ≤ 6 →
    partsB g.nons left (r.map (symTok g) ++ L) (g.terms.take n) ps r0 = partsB g.nons left L (g.terms.take n') ps (r0 ++ r)
  | [], n, n', r0, h, _, _, _ => by
    simp only [ordRow, Option.some.injEq] at h
    subst h
    simp
  | s :: l, n, n', r0, h, hs, hn, h6 => by
    have hs' : ∀ x ∈ l, symOk g.terms.length g.nons.length x := fun x hx => hs x (List.mem_cons_of_mem _ hx)
    have h0 := hs s List.mem_cons_self
    simp only [List.length_cons] at h6
    have h6' : ¬ 6 ≤ r0.length := by omega
    have hlen : (g.terms.take n).length = n := by rw [List.length_take]; omega
    simp only [ordRow] at h
    by_cases h100 : 100 ≤ s
    · rw [if_pos h100] at h
      have hk : (s - 100).toNat < g.nons.length := by unfold symOk at h0; omega
      have hi := idx_at nn (List.getElem?_eq_getElem hk)
      have ih := row_read g left tn tl nn L ps l n n' (r0 ++ [s]) h hs' hn (by simp; omega)
      have hsym : symTok g s = (1, g.nons[(s - 100).toNat]) := by
        unfold symTok; rw [if_pos h100, List.getD_eq_getElem?_getD, List.getElem?_eq_getElem hk]; rfl
      have hval : (((100 + (s - 100).toNat : Nat)) : Int) = s := by omega
      simp only [List.map_cons, List.cons_append, hsym, partsB]
      rw [if_pos (by simp), if_neg h6', if_pos trivial, hi]
      simp only []
      rw [hval, ih]
      simp
    · rw [if_neg h100] at h
      have hk1 : 1 ≤ s ∧ s ≤ g.terms.length := by unfold symOk at h0; omega
      have hk : (s - 1).toNat < g.terms.length := by omega
      have hsym : symTok g s = (2, g.terms[(s - 1).toNat]) := by
        unfold symTok; rw [if_neg h100, List.getD_eq_getElem?_getD, List.getElem?_eq_getElem hk]; rfl
      by_cases hnew : s = n + 1
      · rw [if_pos hnew] at h
        have hk2 : (s - 1).toNat = n := by omega
        have ih := row_read g left tn tl nn L ps l (n + 1) n' (r0 ++ [s]) h hs' (by omega) (by simp; omega)
        have hout : g.terms[(s - 1).toNat] ∉ g.terms.take n := by
          intro hm
          obtain ⟨j, hj, e⟩ := List.getElem_of_mem hm
          rw [List.getElem_take] at e
          have := nodup_at tn (by rw [List.length_take] at hj; omega) hk e
          rw [List.length_take] at hj
          omega
        have htk : g.terms.take n ++ [g.terms[(s - 1).toNat]] = g.terms.take (n + 1) := by
          rw [List.take_succ_eq_append_getElem (by omega)]
          simp [hk2]
        simp only [List.map_cons, List.cons_append, hsym, partsB]
        rw [if_pos (by simp), if_neg h6', if_neg (by simp), idx_out hout]
        simp only []
        rw [if_neg (by omega), htk, hlen, show ((n + 1 : Nat) : Int) = s by omega, ih]
        simp
      · rw [if_neg hnew] at h
        by_cases hold : 1 ≤ s ∧ s ≤ n
        · rw [if_pos hold] at h
          have ih := row_read g left tn tl nn L ps l n n' (r0 ++ [s]) h hs' hn (by simp; omega)
          have hi : idx (g.terms.take n) g.terms[(s - 1).toNat] = some (s - 1).toNat := by
            refine idx_at (take_nodup tn n) ?_
            rw [List.getElem?_take_of_lt (by omega), List.getElem?_eq_getElem hk]
          simp only [List.map_cons, List.cons_append, hsym, partsB]
          rw [if_pos (by simp), if_neg h6', if_neg (by simp), hi]
          simp only []
          rw [show (((s - 1).toNat + 1 : Nat) : Int) = s by omega, ih]
          simp
        · rw [if_neg hold] at h; cases h

theorem rows_read (g : Gr) (left : Int) (tn : g.terms.Nodup) (tl : g.terms.length ≤ 8) (nn : g.nons.Nodup) : ∀ (rows : List (List Int)) (n n' : Nat) (ps : List (Int × List Int)),
    rows ≠ [] → ordRows n rows = some n' → (∀ r ∈ rows, r.length ≤ 6 ∧ ∀ s ∈ r, symOk g.terms.length g.nons.length s) → n ≤ g.terms.length → (ps ++ rows.map fun r => (left, r)).Nodup → (ps ++ rows.map fun r => (left, r)).length ≤ 24 →
    partsB g.nons left (toksOf g rows) (g.terms.take n) ps [] = some (g.terms.take n', ps ++ rows.map fun r => (left, r))
  | [], _, _, _, h, _, _, _, _, _ => absurd rfl h
  | [r], n, n', ps, _, ho, hs, hn, hd, hl => by
    rw [ordRows_one] at ho
    have h1 := hs r (by simp)
    simp only [toksOf]
    rw [row_read g left tn tl nn [(5, [])] ps r n n' [] ho h1.2 hn (by simpa using h1.1)]
    simp only [partsB]
    rw [if_neg (by simp), if_neg (by simp at hl; omega), if_neg]
    · simp
    · intro hm
      simp only [List.map_cons, List.map_nil] at hd
      rw [List.nodup_append] at hd
      exact hd.2.2 _ hm (left, r) (by simp) (by simp)
  | r :: q :: l, n, n', ps, _, ho, hs, hn, hd, hl => by
    have h1 := hs r (by simp)
    simp only [ordRows] at ho
    cases hm : ordRow n r with
    | none => rw [hm] at ho; cases ho
    | some m =>
      rw [hm] at ho
      have hmle := ordRow_le r n m _ _ hm h1.2 hn
      simp only [toksOf]
      rw [row_read g left tn tl nn ((4, [124]) :: toksOf g (q :: l)) ps r n m [] hm h1.2 hn (by simpa using h1.1)]
      simp only [partsB]
      rw [if_neg (by simp), if_neg (by simp at hl; omega), if_neg]
      · rw [show ([] ++ r : List Int) = r from rfl, rows_read g left tn tl nn (q :: l) m n' (ps ++ [(left, r)]) (by simp) (by simpa [ordRows] using ho) (fun x hx => hs x (List.mem_cons_of_mem _ hx)) hmle.2 (by simpa using hd) (by simpa using hl)]
        simp
      · intro hmm
        simp only [List.map_cons] at hd
        rw [List.nodup_append] at hd
        exact hd.2.2 _ hmm (left, r) (by simp) (by simp)

theorem ordRows_le : ∀ (rows : List (List Int)) (n n' nt nn : Nat), ordRows n rows = some n' → (∀ r ∈ rows, ∀ s ∈ r, symOk nt nn s) → n ≤ nt → n ≤ n' ∧ n' ≤ nt
  | [], n, n', _, _, h, _, hn => by simp only [ordRows, Option.some.injEq] at h; omega
  | r :: l, n, n', nt, nn, h, hs, hn => by
    simp only [ordRows] at h
    cases hm : ordRow n r with
    | none => rw [hm] at h; cases h
    | some m =>
      rw [hm] at h
      have h1 := ordRow_le r n m nt nn hm (hs r List.mem_cons_self) hn
      have h2 := ordRows_le l m n' nt nn h (fun x hx => hs x (List.mem_cons_of_mem _ hx)) h1.2
      omega

theorem bodies_read (g : Gr) (tn : g.terms.Nodup) (tl : g.terms.length ≤ 8) (nn : g.nons.Nodup) : ∀ (ns : List (List UInt8)) (rows : List (List (List Int))) (i n n' : Nat) (ps : List (Int × List Int)),
    ns.length = rows.length → (∀ r ∈ rows, r ≠ []) → ordRows n rows.flatten = some n' → (∀ r ∈ rows.flatten, r.length ≤ 6 ∧ ∀ s ∈ r, symOk g.terms.length g.nons.length s) → n ≤ g.terms.length → (ps ++ lay i rows).Nodup → (ps ++ lay i rows).length ≤ 24 →
    bodiesB g.nons (rulesOf g ns rows) i (g.terms.take n) ps = some (g.terms.take n', ps ++ lay i rows)
  | [], [], i, n, n', ps, _, _, ho, _, _, _, _ => by
    simp only [List.flatten_nil, ordRows, Option.some.injEq] at ho
    subst ho
    simp [rulesOf, bodiesB, lay]
  | [], _ :: _, _, _, _, _, h, _, _, _, _, _, _ => by simp at h
  | _ :: _, [], _, _, _, _, h, _, _, _, _, _, _ => by simp at h
  | m :: ns, r :: rows, i, n, n', ps, hl, hne, ho, hs, hn, hd, h24 => by
    rw [List.flatten_cons, ordRows_append] at ho
    cases hk : ordRows n r with
    | none => rw [hk] at ho; cases ho
    | some k =>
      rw [hk] at ho
      have hsr : ∀ x ∈ r, x.length ≤ 6 ∧ ∀ s ∈ x, symOk g.terms.length g.nons.length s := fun x hx => hs x (by rw [List.flatten_cons]; exact List.mem_append_left _ hx)
      have hkl := ordRows_le r n k _ _ hk (fun x hx => (hsr x hx).2) hn
      have hd2 : (ps ++ (r.map (fun x => (((100 + i : Nat) : Int), x)) ++ lay (i + 1) rows)).Nodup := hd
      have h242 : (ps ++ (r.map (fun x => (((100 + i : Nat) : Int), x)) ++ lay (i + 1) rows)).length ≤ 24 := h24
      rw [← List.append_assoc] at hd2 h242
      have h1 := rows_read g ((100 + i : Nat) : Int) tn tl nn r n k ps (hne r List.mem_cons_self) hk hsr hn (List.nodup_append.1 hd2).1 (by rw [List.length_append] at h242; omega)
      simp only [rulesOf, bodiesB]
      rw [h1]
      simp only []
      rw [bodies_read g tn tl nn ns rows (i + 1) k n' _ (by simpa using hl) (fun x hx => hne x (List.mem_cons_of_mem _ hx)) ho (fun x hx => hs x (by rw [List.flatten_cons]; exact List.mem_append_right _ hx)) hkl.2 hd2 h242]
      simp [lay]

/-- Tokens within a rule's parts are names and bars. -/
theorem toks_rule (g : Gr) (L : List Bare) (n : List UInt8) : ∀ (rows : List (List Int)) (acc : List Bare), ruleB (toksOf g rows ++ L) (.parts n acc) = (ruleB L .start).map ((n, acc ++ toksOf g rows) :: ·) := by
  have hrow : ∀ (r : List Int) (M : List Bare) (acc : List Bare), ruleB (r.map (symTok g) ++ M) (.parts n acc) = ruleB M (.parts n (acc ++ r.map (symTok g))) := by
    intro r
    induction r with
    | nil => intro M acc; simp
    | cons s l ih =>
      intro M acc
      have hk : (symTok g s).1 = 1 ∨ (symTok g s).1 = 2 := by unfold symTok; split <;> simp
      simp only [List.map_cons, List.cons_append, ruleB]
      rw [if_neg (by omega), if_neg (by omega), ih]
      simp
  intro rows
  induction rows with
  | nil => intro acc; simp [toksOf, ruleB]
  | cons r l ih =>
    intro acc
    cases l with
    | nil =>
      simp only [toksOf, List.append_assoc]
      rw [hrow]
      simp [ruleB]
    | cons q l =>
      simp only [toksOf, List.append_assoc, List.cons_append]
      rw [hrow]
      simp only [ruleB]
      rw [if_neg (by decide), if_neg (by decide), ih]
      simp

theorem lines_rule (g : Gr) : ∀ (ns : List (List UInt8)) (rows : List (List (List Int))), ruleB (linesB g ns rows) .start = some (rulesOf g ns rows)
  | [], _ => by simp [linesB, rulesOf, ruleB]
  | _ :: _, [] => by simp [linesB, rulesOf, ruleB]
  | n :: ns, r :: rows => by
    simp only [linesB, rulesOf]
    rw [show ruleB ((1, n) :: (3, [58]) :: (toksOf g r ++ linesB g ns rows)) .start = ruleB (toksOf g r ++ linesB g ns rows) (.parts n []) from rfl, toks_rule, lines_rule g ns rows]
    simp

theorem names_read : ∀ (l ns : List (List UInt8)), (ns ++ l).Nodup → (ns ++ l).length ≤ 8 → namesB l ns = some (ns ++ l)
  | [], ns, _, _ => by simp [namesB]
  | n :: l, ns, hn, h8 => by
    have hm : n ∉ ns := by
      intro hm
      rw [List.nodup_append] at hn
      exact hn.2.2 n hm n List.mem_cons_self rfl
    simp only [namesB]
    rw [idx_out hm, if_neg (by simp), if_neg (by simp at h8; omega), names_read l (ns ++ [n]) (by simpa using hn) (by simpa using h8)]
    simp

theorem rules_names (g : Gr) : ∀ (ns : List (List UInt8)) (rows : List (List (List Int))), ns.length = rows.length → (rulesOf g ns rows).map (·.1) = ns
  | [], [], _ => rfl
  | [], _ :: _, h => by simp at h
  | _ :: _, [], h => by simp at h
  | n :: ns, r :: rows, h => by simp [rulesOf, rules_names g ns rows (by simpa using h)]

theorem lay_snd : ∀ (rows : List (List (List Int))) (i : Nat), (lay i rows).map (·.2) = rows.flatten
  | [], _ => rfl
  | r :: l, i => by simp [lay, lay_snd l (i + 1), Function.comp_def]

/-- A good grammar's lines are read as it. -/
theorem good_read (g : Gr) (h : Good g) : ∃ rows : List (List (List Int)), rows.length = g.nons.length ∧ (∀ r ∈ rows, r ≠ []) ∧ g.prods = lay 0 rows ∧ parseB (linesB g g.nons rows) = some g := by
  obtain ⟨rows, h1, h2, h3⟩ := h.rows
  refine ⟨rows, h1, h2, h3, ?_⟩
  have hfl : rows.flatten = g.prods.map (·.2) := by rw [h3, lay_snd]
  have ho : ordRows 0 rows.flatten = some g.terms.length := by
    have := h.v.ord
    rw [ordRows_append] at this
    rw [hfl]
    cases hx : ordRows 0 (g.prods.map (·.2)) with
    | none => rw [hx] at this; cases this
    | some m =>
      rw [hx] at this
      simpa [ordRows, ordRow] using this
  have hs : ∀ r ∈ rows.flatten, r.length ≤ 6 ∧ ∀ s ∈ r, symOk g.terms.length g.nons.length s := by
    intro r hr
    rw [hfl] at hr
    obtain ⟨p, hp, rfl⟩ := List.mem_map.1 hr
    exact h.v.pv p hp
  have hb := bodies_read g h.v.tn h.v.tl h.nn g.nons rows 0 0 g.terms.length [] h1.symm h2 ho hs (Nat.zero_le _) (by rw [List.nil_append, ← h3]; exact h.v.pn) (by rw [List.nil_append, ← h3]; exact h.v.pl)
  unfold parseB
  rw [lines_rule]
  simp only []
  rw [rules_names g g.nons rows h1.symm, names_read g.nons [] (by simpa using h.nn) (by simpa using h.nl)]
  have hne : ¬ rulesOf g g.nons rows = [] := by
    have hnp := h.np
    intro e
    have := rules_names g g.nons rows h1.symm
    rw [e] at this
    exact hnp this.symm
  rw [if_neg hne]
  simp only [List.nil_append]
  rw [List.take_zero] at hb
  rw [hb]
  simp only [List.take_length, List.nil_append]
  rw [if_neg (by simpa using h.tp), ← h3]

end Go.Proofs.YtejjdfmobiegdaaDoor.Doc

namespace Go.Proofs.YtejjdfmobiegdaaDoor.Doc

def partTxt (g : Gr) (r : List Int) : List UInt8 := r.flatMap fun s => 32 :: symName g s
def partsTxt (g : Gr) : List (List Int) → List UInt8
  | [] => []
  | [r] => partTxt g r
  | r :: q :: l => partTxt g r ++ 32 :: 124 :: partsTxt g (q :: l)
def linesTxt (g : Gr) : List (List UInt8) → List (List (List Int)) → List UInt8
  | n :: ns, r :: rs => (n ++ 58 :: partsTxt g r) ++ 10 :: linesTxt g ns rs
  | _, _ => []

/-- A line's rest is these tokens, wherever it stands. -/
def LinIs (R : List UInt8) (bs : List Bare) : Prop := ∀ line col, 0 < col → (lin R line col).2 = 0 ∧ (lin R line col).1.map bare = bs

/-- What does not go on a word. -/
def Parted (R : List UInt8) : Prop := ∀ c l, R = c :: l → word c = false

theorem rowLen_app : ∀ (n R : List UInt8), rowLen n = n.length → rowLen (n ++ R) = n.length + rowLen R
  | [], R, _ => by simp
  | c :: l, R, h => by
    have hl := rowLen_le l
    simp only [rowLen, List.length_cons] at h
    split at h
    · rename_i hw
      have ih := rowLen_app l R (by omega)
      simp only [List.cons_append, rowLen, hw, if_true, ih, List.length_cons]
      omega
    · omega
theorem rowLen_parted {R : List UInt8} (h : Parted R) : rowLen R = 0 := by
  cases R with
  | nil => rfl
  | cons c l => simp [rowLen, h c l rfl]
theorem rowLen_all : ∀ {n : List UInt8}, rowLen n = n.length → ∀ c ∈ n, word c = true
  | [], _, c, hc => by simp at hc
  | d :: l, h, c, hc => by
    have hl := rowLen_le l
    simp only [rowLen, List.length_cons] at h
    split at h
    · rename_i hw
      rcases List.mem_cons.1 hc with rfl | hc
      · exact hw
      · exact rowLen_all (by omega) c hc
    · omega

theorem kind_name {n : List UInt8} (h : kindOf n ≠ 0) : nameOk n = true := by
  cases n with
  | nil => simp [kindOf] at h
  | cons c l =>
    have e : kindOf (c :: l) = if nameOk (c :: l) = true then (if up c = true then 1 else 2) else 0 := rfl
    rw [e] at h
    cases hn : nameOk (c :: l) with
    | true => rfl
    | false => rw [hn] at h; simp at h
theorem name_row {n : List UInt8} (h : nameOk n = true) : rowLen n = n.length ∧ ∃ c l, n = c :: l ∧ lett c = true := by
  cases n with
  | nil => simp [nameOk] at h
  | cons c l =>
    simp only [nameOk, Bool.and_eq_true, decide_eq_true_eq] at h
    exact ⟨by rw [h.2]; rfl, c, l, rfl, h.1.2⟩
theorem name_ten {n : List UInt8} (h : nameOk n = true) : ∀ c ∈ n, c ≠ 10 := by
  intro c hc he
  have := rowLen_all (name_row h).1 c hc
  rw [he] at this
  exact absurd this (by decide)

theorem lin_word {n R : List UInt8} {bs : List Bare} (hk : kindOf n ≠ 0) (hp : Parted R) (h : LinIs R bs) : LinIs (n ++ R) ((kindOf n, n) :: bs) := by
  intro line col hc
  have hn := kind_name hk
  obtain ⟨hrow, c, l, rfl, hl⟩ := name_row hn
  have hr := rowLen_app (c :: l) R hrow
  rw [rowLen_parted hp, Nat.add_zero] at hr
  have hw : word c = true := by simp [word, hl]
  have hne : c ≠ 32 ∧ c ≠ 35 ∧ c ≠ 58 ∧ c ≠ 124 := by
    refine ⟨?_, ?_, ?_, ?_⟩ <;> (rintro rfl; exact absurd hl (by decide))
  have hpc : piece c (l ++ R) = (kindOf (c :: l), (c :: l).length) := by
    simp only [List.cons_append] at hr
    unfold piece
    rw [if_neg hne.1, if_neg hne.2.1, if_neg hne.2.2.1, if_neg hne.2.2.2, hr, ← List.cons_append, List.take_left]
  have h9 : kindOf (c :: l) ≠ 9 := by have := kindOf_lt (c :: l); omega
  have h2 := h line (col + (c :: l).length) (by omega)
  rw [List.cons_append, lin_cons, hpc]
  simp only [if_neg hk, if_neg h9]
  rw [← List.cons_append, List.drop_left, List.take_left]
  exact ⟨h2.1, by rw [List.map_cons, h2.2]; rfl⟩

theorem lin_sign {R : List UInt8} {bs : List Bare} (c : UInt8) (k : Nat) (hk : ∀ l, piece c l = (k, 1)) (h0 : k ≠ 0) (h9 : k ≠ 9) (h : LinIs R bs) : LinIs (c :: R) ((k, [c]) :: bs) := by
  intro line col hc
  have h2 := h line (col + 1) (by omega)
  rw [lin_cons, hk]
  simp only [if_neg h0, if_neg h9, List.drop_succ_cons, List.drop_zero, List.take_succ_cons, List.take_zero]
  exact ⟨h2.1, by rw [List.map_cons, h2.2]; rfl⟩
theorem lin_blank {R : List UInt8} {bs : List Bare} (h : LinIs R bs) : LinIs (32 :: R) bs := by
  intro line col hc
  have h2 := h line (col + 1) (by omega)
  rw [lin_cons, show ∀ l, piece 32 l = (9, 1) from fun l => rfl]
  simp only [if_true, List.drop_succ_cons, List.drop_zero]
  exact h2

theorem sym_tok {g : Gr} (h : Good g) {s : Int} (hs : symOk g.terms.length g.nons.length s) : symTok g s = (kindOf (symName g s), symName g s) ∧ kindOf (symName g s) ≠ 0 := by
  have htl := h.v.tl
  unfold symTok symName
  by_cases h100 : 100 ≤ s
  · have hk : (s - 100).toNat < g.nons.length := by unfold symOk at hs; omega
    have := h.nk _ (List.getElem_mem hk)
    rw [if_pos h100, if_pos h100, List.getD_eq_getElem?_getD, List.getElem?_eq_getElem hk]
    simp only [Option.getD_some]
    rw [this]; simp
  · have hk : (s - 1).toNat < g.terms.length := by unfold symOk at hs; omega
    have := h.v.tk _ (List.getElem_mem hk)
    rw [if_neg h100, if_neg h100, List.getD_eq_getElem?_getD, List.getElem?_eq_getElem hk]
    simp only [Option.getD_some]
    rw [this]; simp

theorem part_parted (g : Gr) (r : List Int) (R : List UInt8) (hR : Parted R) : Parted (partTxt g r ++ R) := by
  cases r with
  | nil => exact hR
  | cons s l =>
    intro c m hm
    simp [partTxt] at hm
    rw [← hm.1]; decide

theorem lin_part {g : Gr} (h : Good g) (R : List UInt8) (bs : List Bare) (hR : Parted R) (hb : LinIs R bs) : ∀ (r : List Int), (∀ s ∈ r, symOk g.terms.length g.nons.length s) → LinIs (partTxt g r ++ R) (r.map (symTok g) ++ bs)
  | [], _ => hb
  | s :: l, hs => by
    have ih := lin_part h R bs hR hb l (fun x hx => hs x (List.mem_cons_of_mem _ hx))
    obtain ⟨h1, h2⟩ := sym_tok h (hs s List.mem_cons_self)
    have e : partTxt g (s :: l) ++ R = 32 :: (symName g s ++ (partTxt g l ++ R)) := by simp [partTxt]
    rw [e, List.map_cons, List.cons_append, h1]
    exact lin_blank (lin_word h2 (part_parted g l R hR) ih)

theorem lin_parts {g : Gr} (h : Good g) : ∀ (rows : List (List Int)), rows ≠ [] → (∀ r ∈ rows, ∀ s ∈ r, symOk g.terms.length g.nons.length s) → ∃ bs, LinIs (partsTxt g rows) bs ∧ toksOf g rows = bs ++ [(5, [])]
  | [], hne, _ => absurd rfl hne
  | [r], _, hs => by
    refine ⟨r.map (symTok g), ?_, rfl⟩
    have := lin_part h [] [] (fun c l h => by cases h) (fun line col _ => ⟨rfl, rfl⟩) r (hs r (by simp))
    simpa [partsTxt] using this
  | r :: q :: l, _, hs => by
    obtain ⟨bs, h1, h2⟩ := lin_parts h (q :: l) (by simp) (fun x hx => hs x (List.mem_cons_of_mem _ hx))
    refine ⟨r.map (symTok g) ++ (4, [124]) :: bs, ?_, by simp only [toksOf]; rw [h2]; simp⟩
    have hp : Parted (32 :: 124 :: partsTxt g (q :: l)) := by
      intro c m hm
      simp at hm
      rw [← hm.1]; decide
    exact lin_part h _ _ hp (lin_blank (lin_sign 124 4 (fun l => rfl) (by decide) (by decide) h1)) r (hs r (by simp))

theorem sym_ten {g : Gr} (h : Good g) {s : Int} (hs : symOk g.terms.length g.nons.length s) : ∀ c ∈ symName g s, c ≠ 10 := name_ten (kind_name (sym_tok h hs).2)

theorem part_ten {g : Gr} (h : Good g) (r : List Int) (hs : ∀ s ∈ r, symOk g.terms.length g.nons.length s) : ∀ c ∈ partTxt g r, c ≠ 10 := by
  intro c hc
  unfold partTxt at hc
  obtain ⟨s, hsr, hc⟩ := List.mem_flatMap.1 hc
  rcases List.mem_cons.1 hc with rfl | hc
  · decide
  · exact sym_ten h (hs s hsr) c hc
theorem parts_ten {g : Gr} (h : Good g) : ∀ (rows : List (List Int)), (∀ r ∈ rows, ∀ s ∈ r, symOk g.terms.length g.nons.length s) → ∀ c ∈ partsTxt g rows, c ≠ 10
  | [], _, c, hc => by simp [partsTxt] at hc
  | [r], hs, c, hc => part_ten h r (hs r (by simp)) c hc
  | r :: q :: l, hs, c, hc => by
    simp only [partsTxt] at hc
    rcases List.mem_append.1 hc with hc | hc
    · exact part_ten h r (hs r (by simp)) c hc
    · rcases List.mem_cons.1 hc with rfl | hc
      · decide
      · rcases List.mem_cons.1 hc with rfl | hc
        · decide
        · exact parts_ten h (q :: l) (fun x hx => hs x (List.mem_cons_of_mem _ hx)) c hc

/-- The text's tokens. -/
theorem txt_lines {g : Gr} (h : Good g) : ∀ (ns : List (List UInt8)) (rows : List (List (List Int))) (line : Nat), ns.length = rows.length → (∀ n ∈ ns, kindOf n = 1) → (∀ r ∈ rows, r ≠ []) → (∀ r ∈ rows, ∀ x ∈ r, ∀ s ∈ x, symOk g.terms.length g.nons.length s) →
    (txt (linesTxt g ns rows) line).2 = (0, 0) ∧ (txt (linesTxt g ns rows) line).1.map bare = linesB g ns rows
  | [], [], line, _, _, _, _ => by simp [linesTxt, linesB, txt_nil]
  | [], _ :: _, _, h, _, _, _ => by simp at h
  | _ :: _, [], _, h, _, _, _ => by simp at h
  | n :: ns, r :: rows, line, hl, hk, hne, hs => by
    have hn := hk n List.mem_cons_self
    have hn0 : kindOf n ≠ 0 := by omega
    obtain ⟨bs, h1, h2⟩ := lin_parts h r (hne r List.mem_cons_self) (hs r List.mem_cons_self)
    have hline : LinIs (n ++ 58 :: partsTxt g r) ((1, n) :: (3, [58]) :: bs) := by
      have := lin_word (R := 58 :: partsTxt g r) hn0 (fun c m hm => by simp at hm; rw [← hm.1]; decide) (lin_sign 58 3 (fun l => rfl) (by decide) (by decide) h1)
      rw [hn] at this
      exact this
    have hten : ∀ c ∈ n ++ 58 :: partsTxt g r, c ≠ 10 := by
      intro c hc
      rcases List.mem_append.1 hc with hc | hc
      · exact name_ten (kind_name hn0) c hc
      · rcases List.mem_cons.1 hc with rfl | hc
        · decide
        · exact parts_ten h r (hs r List.mem_cons_self) c hc
    have ih := txt_lines h ns rows (line + 1) (by simpa using hl) (fun x hx => hk x (List.mem_cons_of_mem _ hx)) (fun x hx => hne x (List.mem_cons_of_mem _ hx)) (fun x hx => hs x (List.mem_cons_of_mem _ hx))
    have hL := hline line 1 (by decide)
    simp only [linesTxt]
    rw [txt_line1 _ _ hten, if_pos hL.1]
    refine ⟨ih.1, ?_⟩
    simp only [List.map_append, List.map_cons, hL.2, ih.2, linesB, h2]
    simp [bare]

/-- The productions of the nonterminal numbered i. -/
def partsOf (g : Gr) (i : Nat) : List (List Int) := (g.prods.filter fun p => p.1 == ((100 + i : Nat) : Int)).map (·.2)
def textG (g : Gr) : List UInt8 := linesTxt g g.nons ((List.range g.nons.length).map (partsOf g))

theorem lay_far : ∀ (rows : List (List (List Int))) (i j : Nat), j < i → (lay i rows).filter (fun p => p.1 == ((100 + j : Nat) : Int)) = []
  | [], _, _, _ => rfl
  | r :: l, i, j, h => by
    simp only [lay, List.filter_append]
    rw [lay_far l (i + 1) j (by omega), List.append_nil, List.filter_eq_nil_iff]
    intro p hp
    obtain ⟨x, _, rfl⟩ := List.mem_map.1 hp
    simp; omega
theorem lay_at : ∀ (rows : List (List (List Int))) (i j : Nat) (r : List (List Int)), rows[j]? = some r → ((lay i rows).filter fun p => p.1 == ((100 + (i + j) : Nat) : Int)).map (·.2) = r
  | [], _, _, _, h => by simp at h
  | q :: l, i, 0, r, h => by
    simp at h; subst h
    simp only [lay, List.filter_append, Nat.add_zero]
    rw [lay_far l (i + 1) i (by omega), List.append_nil, List.filter_eq_self.2, List.map_map]
    · simp [Function.comp_def]
    · intro p hp
      obtain ⟨x, _, rfl⟩ := List.mem_map.1 hp
      simp
  | q :: l, i, j + 1, r, h => by
    have ih := lay_at l (i + 1) j r (by simpa using h)
    simp only [lay, List.filter_append]
    rw [List.filter_eq_nil_iff.2, List.nil_append, show i + (j + 1) = i + 1 + j by omega]
    · exact ih
    · intro p hp
      obtain ⟨x, _, rfl⟩ := List.mem_map.1 hp
      simp; omega

theorem rows_parts {g : Gr} {rows : List (List (List Int))} (h1 : rows.length = g.nons.length) (h3 : g.prods = lay 0 rows) : (List.range g.nons.length).map (partsOf g) = rows := by
  apply List.ext_getElem?
  intro j
  by_cases hj : j < rows.length
  · have hr : rows[j]? = some rows[j] := List.getElem?_eq_getElem hj
    have := lay_at rows 0 j _ hr
    rw [Nat.zero_add, ← h3] at this
    rw [List.getElem?_map, List.getElem?_range (by omega), hr]
    simp only [Option.map_some]
    rw [show partsOf g j = _ from this]
  · rw [List.getElem?_eq_none (by simp; omega), List.getElem?_eq_none (by omega)]

/-- A good grammar's text is read as it. -/
theorem good_text (g : Gr) (h : Good g) : parse (textG g) = .ok g := by
  obtain ⟨rows, h1, h2, h3, h4⟩ := good_read g h
  have hs : ∀ r ∈ rows, ∀ x ∈ r, ∀ s ∈ x, symOk g.terms.length g.nons.length s := by
    intro r hr x hx
    have hm : x ∈ g.prods.map (·.2) := by rw [h3, lay_snd]; exact List.mem_flatten.2 ⟨r, hr, hx⟩
    obtain ⟨p, hp, rfl⟩ := List.mem_map.1 hm
    exact (h.v.pv p hp).2
  have ht := txt_lines h g.nons rows 1 h1.symm h.nk h2 hs
  rw [parse_iff]
  unfold textG
  rw [rows_parts h1 h3]
  exact ⟨ht.1, by rw [ht.2]; exact h4⟩

/-- What scan's tokens are. -/
theorem lin_fair : ∀ (n : Nat) (l : List UInt8) (line col : Nat), l.length ≤ n → ∀ x ∈ (lin l line col).1, Fair (bare x)
  | _, [], _, _, _, x, hx => by simp [lin_nil] at hx
  | 0, c :: l, _, _, h, _, _ => by simp at h
  | n + 1, c :: l, line, col, h, x, hx => by
    rw [lin_cons] at hx
    by_cases h0 : (piece c l).1 = 0
    · simp [h0] at hx
    · have hp := piece_pos c l h0
      have ih := lin_fair n ((c :: l).drop (piece c l).2) line (col + (piece c l).2) (by rw [List.length_drop]; simp only [List.length_cons] at *; omega) x
      by_cases h9 : (piece c l).1 = 9
      · rw [if_neg h0, if_pos h9] at hx
        exact ih hx
      · rw [if_neg h0, if_neg h9] at hx
        rcases List.mem_cons.1 hx with rfl | hx
        · unfold Fair bare
          simp only
          unfold piece
          split
          · simp
          split
          · simp
          split
          · simp
          split
          · simp
          exact ⟨fun h => h, fun h => h⟩
        · exact ih hx
theorem txt_fair : ∀ (n : Nat) (t : List UInt8) (line : Nat), t.length ≤ n → ∀ x ∈ (txt t line).1, Fair (bare x)
  | _, [], _, _, x, hx => by simp [txt_nil] at hx
  | 0, c :: l, _, h, _, _ => by simp at h
  | n + 1, c :: l, line, h, x, hx => by
    have hr := rest_lt c l
    rw [txt_cons] at hx
    split at hx
    · rcases List.mem_append.1 hx with hx | hx
      · exact lin_fair _ _ _ _ (Nat.le_refl _) x hx
      · rcases List.mem_cons.1 hx with rfl | hx
        · exact ⟨fun h => by simp [bare] at h, fun h => by simp [bare] at h⟩
        · exact txt_fair n _ _ (by omega) x hx
    · simp at hx

/-- What was read is good; its text is read as it, also behind a remark's line. -/
theorem read_good (t : List UInt8) (g : Gr) (h : parse t = .ok g) : Good g := by
  rw [parse_iff] at h
  refine parse_good _ g h.2 ?_
  intro b hb
  obtain ⟨x, hx, rfl⟩ := List.mem_map.1 hb
  exact txt_fair _ t 1 (Nat.le_refl _) x hx

theorem parse_ahead (r t : List UInt8) (g : Gr) (hr : ∀ c ∈ r, c ≠ 10) (hl : LinIs r []) (h : parse t = .ok g) : parse (r ++ 10 :: t) = .ok g := by
  rw [parse_iff] at h ⊢
  have h1 := hl 1 1 (by decide)
  have hd := txt_down 1 _ t 1 (Nat.le_refl _) (by decide)
  rw [if_pos h.1] at hd
  rw [txt_line1 r t hr, if_pos h1.1]
  refine ⟨hd.2, ?_⟩
  simp only [List.map_append, List.map_cons, h1.2, List.nil_append]
  rw [hd.1, List.map_map, show bare ∘ down 1 = bare from rfl]
  have : parseB (bare ⟨5, [], 1, r.length + 1⟩ :: List.map bare (txt t 1).1) = parseB (List.map bare (txt t 1).1) := by
    unfold parseB
    rw [show ruleB (bare ⟨5, [], 1, r.length + 1⟩ :: List.map bare (txt t 1).1) .start = ruleB (List.map bare (txt t 1).1) .start from rfl]
  rw [this]
  exact h.2

end Go.Proofs.YtejjdfmobiegdaaDoor.Doc

namespace Go.Proofs.YtejjdfmobiegdaaDoor.Doc

structure CheckG (g : Gr) : Prop where
  t1 : 1 ≤ g.terms.length
  t8 : g.terms.length ≤ 8
  n1 : 1 ≤ g.nons.length
  n8 : g.nons.length ≤ 8
  p1 : 1 ≤ g.prods.length
  p24 : g.prods.length ≤ 24
  tk : ∀ x ∈ g.terms, kindOf x = 2
  tn : g.terms.Nodup
  nk : ∀ x ∈ g.nons, kindOf x = 1
  nn : g.nons.Nodup
  some_ : ∀ i, i < g.nons.length → ∃ p ∈ g.prods, p.1 = ((100 + i : Nat) : Int)
  pv : ∀ p ∈ g.prods, (100 ≤ p.1 ∧ p.1 < 100 + (g.nons.length : Int)) ∧ p.2.length ≤ 6 ∧ ∀ s ∈ p.2, symOk g.terms.length g.nons.length s
  pn : g.prods.Nodup

theorem lay_mem : ∀ (rows : List (List (List Int))) (i : Nat) (p : Int × List Int), p ∈ lay i rows → ∃ j, j < rows.length ∧ p.1 = ((100 + (i + j) : Nat) : Int)
  | [], _, _, h => by simp [lay] at h
  | r :: l, i, p, h => by
    simp only [lay] at h
    rcases List.mem_append.1 h with h | h
    · obtain ⟨x, _, rfl⟩ := List.mem_map.1 h
      exact ⟨0, by simp, rfl⟩
    · obtain ⟨j, hj, e⟩ := lay_mem l (i + 1) p h
      exact ⟨j + 1, by simpa using hj, by rw [e]; congr 1; omega⟩
theorem lay_has : ∀ (rows : List (List (List Int))) (i j : Nat), j < rows.length → (∀ r ∈ rows, r ≠ []) → ∃ p ∈ lay i rows, p.1 = ((100 + (i + j) : Nat) : Int)
  | [], _, _, h, _ => by simp at h
  | r :: l, i, 0, _, hne => by
    have hr := hne r List.mem_cons_self
    cases r with
    | nil => exact absurd rfl hr
    | cons x r => exact ⟨_, by simp only [lay, List.map_cons, List.cons_append]; exact List.mem_cons_self, rfl⟩
  | r :: l, i, j + 1, h, hne => by
    obtain ⟨p, hp, e⟩ := lay_has l (i + 1) j (by simpa using h) (fun x hx => hne x (List.mem_cons_of_mem _ hx))
    exact ⟨p, by simp only [lay]; exact List.mem_append_right _ hp, by rw [e]; congr 1; omega⟩

theorem good_check (g : Gr) (h : Good g) : CheckG g := by
  obtain ⟨rows, h1, h2, h3⟩ := h.rows
  have hn : 1 ≤ g.nons.length := by
    have := h.np
    cases hx : g.nons with
    | nil => exact absurd hx this
    | cons a l => simp
  refine ⟨?_, h.v.tl, hn, h.nl, ?_, h.v.pl, h.v.tk, h.v.tn, h.nk, h.nn, ?_, ?_, h.v.pn⟩
  · have := h.tp
    cases hx : g.terms with
    | nil => exact absurd hx this
    | cons a l => simp
  · obtain ⟨p, hp, _⟩ := lay_has rows 0 0 (by omega) h2
    rw [← h3] at hp
    cases hx : g.prods with
    | nil => rw [hx] at hp; simp at hp
    | cons a l => simp
  · intro i hi
    obtain ⟨p, hp, e⟩ := lay_has rows 0 i (by omega) h2
    rw [← h3] at hp
    exact ⟨p, hp, by rw [e]; congr 1; omega⟩
  · intro p hp
    have hv := h.v.pv p hp
    rw [h3] at hp
    obtain ⟨j, hj, e⟩ := lay_mem rows 0 p hp
    exact ⟨by omega, hv.1, hv.2⟩

/-- The document's own Print has a text just of the good ones. -/
theorem print_iff (g : Gr) : CheckG g ∧ parse (textG g) = .ok g ↔ Good g :=
  ⟨fun h => read_good _ g h.2, fun h => ⟨good_check g h, good_text g h⟩⟩

/-- What stands by its left is rows of rows. -/
theorem sorted_lay : ∀ (m i : Nat) (ps : List (Int × List Int)), (ps.map (·.1)).Pairwise (· ≤ ·) → (∀ p ∈ ps, ((100 + i : Nat) : Int) ≤ p.1 ∧ p.1 < ((100 + i + m : Nat) : Int)) →
    ps = lay i ((List.range m).map fun j => (ps.filter fun p => p.1 == ((100 + (i + j) : Nat) : Int)).map (·.2))
  | 0, i, ps, _, hb => by
    cases ps with
    | nil => rfl
    | cons p l => have := hb p List.mem_cons_self; omega
  | m + 1, i, ps, hs, hb => by
    have hpart : ∀ (qs : List (Int × List Int)), (qs.map (·.1)).Pairwise (· ≤ ·) → (∀ p ∈ qs, ((100 + i : Nat) : Int) ≤ p.1) →
        qs = (qs.filter fun p => p.1 == ((100 + i : Nat) : Int)) ++ qs.filter fun p => !(p.1 == ((100 + i : Nat) : Int)) := by
      intro qs
      induction qs with
      | nil => intro _ _; rfl
      | cons q l ih =>
        intro h1 h2
        simp only [List.map_cons, List.pairwise_cons] at h1
        have ih' := ih h1.2 (fun p hp => h2 p (List.mem_cons_of_mem _ hp))
        by_cases hq : q.1 = ((100 + i : Nat) : Int)
        · rw [List.filter_cons_of_pos (by simpa using hq), List.filter_cons_of_neg (by simpa using hq), List.cons_append, ← ih']
        · have hgt : ∀ p ∈ q :: l, ¬ p.1 = ((100 + i : Nat) : Int) := by
            intro p hp
            have h0 := h2 q List.mem_cons_self
            rcases List.mem_cons.1 hp with rfl | hp
            · exact hq
            · have := h1.1 p.1 (List.mem_map_of_mem hp)
              omega
          rw [List.filter_eq_nil_iff.2 (by intro p hp; simpa using hgt p hp), List.nil_append, List.filter_eq_self.2 (by intro p hp; simpa using hgt p hp)]
    have e := hpart ps hs (fun p hp => (hb p hp).1)
    have hs2 : ((ps.filter fun p => !(p.1 == ((100 + i : Nat) : Int))).map (·.1)).Pairwise (· ≤ ·) := hs.sublist ((List.filter_sublist).map _)
    have ih := sorted_lay m (i + 1) (ps.filter fun p => !(p.1 == ((100 + i : Nat) : Int))) hs2 (by
      intro p hp
      obtain ⟨hp1, hp2⟩ := List.mem_filter.1 hp
      have := hb p hp1
      simp at hp2
      omega)
    have hrow : ((ps.filter fun p => p.1 == ((100 + i : Nat) : Int)).map (·.2)).map (fun x => (((100 + i : Nat) : Int), x)) = ps.filter fun p => p.1 == ((100 + i : Nat) : Int) := by
      rw [List.map_map]
      conv => rhs; rw [← List.map_id (ps.filter fun p => p.1 == ((100 + i : Nat) : Int))]
      apply List.map_congr_left
      intro p hp
      have := (List.mem_filter.1 hp).2
      simp at this
      obtain ⟨a, b⟩ := p
      simp at this ⊢
      exact this.symm
    have hlast : (List.range m).map (fun j => ((ps.filter fun p => !(p.1 == ((100 + i : Nat) : Int))).filter fun p => p.1 == ((100 + (i + 1 + j) : Nat) : Int)).map (·.2)) = (List.range m).map fun j => (ps.filter fun p => p.1 == ((100 + (i + (j + 1)) : Nat) : Int)).map (·.2) := by
      apply List.map_congr_left
      intro j _
      rw [List.filter_filter]
      congr 1
      apply List.filter_congr
      intro p _
      rw [Bool.eq_iff_iff]
      simp
      omega
    rw [hlast] at ih
    rw [List.range_succ_eq_map, List.map_cons, List.map_map]
    simp only [lay, Nat.add_zero]
    rw [hrow, show (fun j => (ps.filter fun p => p.1 == ((100 + (i + j) : Nat) : Int)).map (·.2)) ∘ Nat.succ = fun j => (ps.filter fun p => p.1 == ((100 + (i + (j + 1)) : Nat) : Int)).map (·.2) from rfl, ← ih]
    exact e

theorem pw_const (r : List (List Int)) (c : Int) : (r.map ((fun p : Int × List Int => p.1) ∘ fun x => (c, x))).Pairwise (· ≤ ·) := by
  induction r with
  | nil => simp
  | cons x r ih =>
    rw [List.map_cons, List.pairwise_cons]
    refine ⟨fun a ha => ?_, ih⟩
    obtain ⟨y, _, rfl⟩ := List.mem_map.1 ha
    exact Int.le_refl c

/-- In plain words: a grammar that may be has a text just if its terminals come in order, and its productions stand by their left. -/
theorem good_iff (g : Gr) : Good g ↔ CheckG g ∧ ordRows 0 (g.prods.map (·.2)) = some g.terms.length ∧ (g.prods.map (·.1)).Pairwise (· ≤ ·) := by
  constructor
  · intro h
    refine ⟨good_check g h, ?_, ?_⟩
    · have := h.v.ord
      rw [ordRows_append] at this
      cases hx : ordRows 0 (g.prods.map (·.2)) with
      | none => rw [hx] at this; cases this
      | some m =>
        rw [hx] at this
        simpa [ordRows, ordRow] using this
    · obtain ⟨rows, _, _, h3⟩ := h.rows
      rw [h3]
      have : ∀ (rows : List (List (List Int))) (i : Nat), ((lay i rows).map (·.1)).Pairwise (· ≤ ·) := by
        intro rows
        induction rows with
        | nil => intro i; simp [lay]
        | cons r l ih =>
          intro i
          simp only [lay, List.map_append, List.map_map]
          rw [List.pairwise_append]
          refine ⟨?_, ih (i + 1), ?_⟩
          · exact pw_const r _
          · intro a ha b hb
            obtain ⟨x, _, rfl⟩ := List.mem_map.1 ha
            obtain ⟨p, hp, rfl⟩ := List.mem_map.1 hb
            obtain ⟨j, _, e⟩ := lay_mem l (i + 1) p hp
            rw [e]
            simp
            omega
      exact this rows 0
  · rintro ⟨h, ho, hs⟩
    have hlay := sorted_lay g.nons.length 0 g.prods hs (fun p hp => by have := (h.pv p hp).1; omega)
    refine ⟨?_, ⟨h.tn, h.t8, h.tk, h.pn, h.p24, fun p hp => (h.pv p hp).2, by simp, by simp, ?_⟩, ?_, h.nn, h.n8, h.nk, _, by simp, ?_, hlay⟩
    · intro e; have := h.t1; rw [e] at this; simp at this
    · rw [ordRows_append, ho]; rfl
    · intro e; have := h.n1; rw [e] at this; simp at this
    · intro r hr
      obtain ⟨j, hj, rfl⟩ := List.mem_map.1 hr
      obtain ⟨p, hp, e⟩ := h.some_ j (List.mem_range.1 hj)
      intro he
      rw [List.map_eq_nil_iff, List.filter_eq_nil_iff] at he
      exact he p hp (by simp [e])

end Go.Proofs.YtejjdfmobiegdaaDoor.Doc

namespace Go.Proofs.YtejjdfmobiegdaaDoor
open Doc

/-- A number as a symbol of so many terminals and nonterminals. -/
def symP (t n : Nat) (v : Int) : Int := if v % ((t + n : Nat) : Int) < t then v % ((t + n : Nat) : Int) + 1 else 100 + v % ((t + n : Nat) : Int) - t
def rowP (t n : Nat) (row : List Int) : List Int := (row.take 3).map (symP t n)
/-- A production of numbers, if it is not there. -/
def putF (g : Gr) (left : Int) (row : List Int) : Gr :=
  if (left, rowP g.terms.length g.nons.length row) ∈ g.prods then g else { g with prods := g.prods ++ [(left, rowP g.terms.length g.nons.length row)] }
def baseP (g : Gr) : Nat → Gr
  | 0 => g
  | i + 1 => putF (baseP g i) ((100 + i : Nat) : Int) [(i : Int)]
def leftP (i : Nat) (row : List Int) (n : Nat) : Int := 100 + (match row with | [] => (i : Int) | x :: _ => x.tdiv 16) % (n : Int)
def rowsP (g : Gr) (rows : List (List Int)) : Nat → Gr
  | 0 => g
  | i + 1 => match rows[i]? with
    | none => rowsP g rows i
    | some row => putF (rowsP g rows i) (leftP i row g.nons.length) row
def anyT (terms : Int) : Nat := 1 + (terms % 3).toNat
def any0 (terms nons : Int) : Gr := ⟨[[97], [98], [99]].take (anyT terms), [[83], [65], [66]].take (anyT nons), []⟩
def anyF (terms nons : Int) (rows : List (List Int)) : Gr := rowsP (baseP (any0 terms nons) (anyT nons)) rows (min rows.length 5)

theorem symP_ok {t n : Nat} (h : 0 < t + n) (ht : t ≤ 8) (v : Int) : (1 ≤ symP t n v ∧ symP t n v ≤ t) ∨ (100 ≤ symP t n v ∧ symP t n v < 100 + n) := by
  have h1 := Int.emod_nonneg v (show ((t + n : Nat) : Int) ≠ 0 by omega)
  have h2 := Int.emod_lt_of_pos v (show (0 : Int) < ((t + n : Nat) : Int) by omega)
  unfold symP
  split <;> omega

/-- What the steps keep. -/
structure AnyOk (t n : Nat) (g : Gr) : Prop where
  te : g.terms = [[97], [98], [99]].take t
  no : g.nons = [[83], [65], [66]].take n
  pv : ∀ p ∈ g.prods, (100 ≤ p.1 ∧ p.1 < 100 + (n : Int)) ∧ p.2.length ≤ 3 ∧ ∀ s ∈ p.2, symOk t n s
  pn : g.prods.Nodup

theorem putF_ok {t n : Nat} {g : Gr} (h : AnyOk t n g) (ht : 1 ≤ t ∧ t ≤ 3) (hn : 1 ≤ n ∧ n ≤ 3) {left : Int} (hl : 100 ≤ left ∧ left < 100 + (n : Int)) (row : List Int) : AnyOk t n (putF g left row) := by
  have e1 : g.terms.length = t := by rw [h.te, List.length_take]; simp; omega
  have e2 : g.nons.length = n := by rw [h.no, List.length_take]; simp; omega
  unfold putF
  split
  · exact h
  · rename_i hm
    rw [e1, e2] at hm ⊢
    refine ⟨h.te, h.no, ?_, ?_⟩
    · intro p hp
      rcases List.mem_append.1 hp with hp | hp
      · exact h.pv p hp
      · rw [List.mem_singleton.1 hp]
        refine ⟨hl, by simp [rowP]; omega, ?_⟩
        intro s hs
        obtain ⟨v, _, rfl⟩ := List.mem_map.1 hs
        have := symP_ok (t := t) (n := n) (by omega) (by omega) v
        unfold symOk
        omega
    · rw [List.nodup_append]
      refine ⟨h.pn, by simp, ?_⟩
      intro a ha b hb
      rw [List.mem_singleton.1 hb]
      rintro rfl
      exact hm ha
theorem putF_len (g : Gr) (left : Int) (row : List Int) : (putF g left row).prods.length ≤ g.prods.length + 1 ∧ g.prods.length ≤ (putF g left row).prods.length := by
  unfold putF; split <;> simp
theorem putF_mem (g : Gr) (left : Int) (row : List Int) : (∀ p ∈ g.prods, p ∈ (putF g left row).prods) ∧ (left, rowP g.terms.length g.nons.length row) ∈ (putF g left row).prods := by
  unfold putF
  split
  · rename_i h; exact ⟨fun p hp => hp, h⟩
  · simp; intro a b h; exact .inl h

theorem baseP_ok {t n : Nat} {g : Gr} (h : AnyOk t n g) (ht : 1 ≤ t ∧ t ≤ 3) (hn : 1 ≤ n ∧ n ≤ 3) : ∀ i, i ≤ n → AnyOk t n (baseP g i) ∧ (baseP g i).prods.length ≤ g.prods.length + i ∧ ∀ j, j < i → ∃ p ∈ (baseP g i).prods, p.1 = ((100 + j : Nat) : Int)
  | 0, _ => ⟨h, by simp [baseP], by intro j hj; omega⟩
  | i + 1, hi => by
    obtain ⟨h1, h2, h3⟩ := baseP_ok h ht hn i (by omega)
    refine ⟨putF_ok h1 ht hn (by omega) _, ?_, ?_⟩
    · have := (putF_len (baseP g i) ((100 + i : Nat) : Int) [(i : Int)]).1
      show (putF _ _ _).prods.length ≤ _
      omega
    · intro j hj
      have hm := putF_mem (baseP g i) ((100 + i : Nat) : Int) [(i : Int)]
      by_cases hji : j = i
      · subst hji; exact ⟨_, hm.2, rfl⟩
      · obtain ⟨p, hp, e⟩ := h3 j (by omega)
        exact ⟨p, hm.1 p hp, e⟩
theorem leftP_ok (i : Nat) (row : List Int) {n : Nat} (hn : 1 ≤ n) : 100 ≤ leftP i row n ∧ leftP i row n < 100 + (n : Int) := by
  unfold leftP
  generalize (match row with | [] => (i : Int) | x :: _ => x.tdiv 16) = v
  have h1 := Int.emod_nonneg v (show (n : Int) ≠ 0 by omega)
  have h2 := Int.emod_lt_of_pos v (show (0 : Int) < n by omega)
  omega
theorem rowsP_ok {t n : Nat} {g : Gr} (h : AnyOk t n g) (ht : 1 ≤ t ∧ t ≤ 3) (hn : 1 ≤ n ∧ n ≤ 3) (rows : List (List Int)) : ∀ i, AnyOk t n (rowsP g rows i) ∧ (rowsP g rows i).prods.length ≤ g.prods.length + i ∧ ∀ p ∈ g.prods, p ∈ (rowsP g rows i).prods
  | 0 => ⟨h, by simp [rowsP], fun p hp => hp⟩
  | i + 1 => by
    obtain ⟨h1, h2, h3⟩ := rowsP_ok h ht hn rows i
    have e2 : g.nons.length = n := by rw [h.no, List.length_take]; simp; omega
    simp only [rowsP]
    cases rows[i]? with
    | none => simp only; exact ⟨h1, by omega, h3⟩
    | some row =>
      simp only
      rw [e2]
      have hl := putF_len (rowsP g rows i) (leftP i row n) row
      exact ⟨putF_ok h1 ht hn (leftP_ok i row hn.1) _, by omega, fun p hp => (putF_mem _ _ _).1 p (h3 p hp)⟩

theorem anyT_ok (x : Int) : 1 ≤ anyT x ∧ anyT x ≤ 3 := by
  unfold anyT
  have h1 := Int.emod_nonneg x (show (3 : Int) ≠ 0 by omega)
  have h2 := Int.emod_lt_of_pos x (show (0 : Int) < 3 by omega)
  omega
theorem anyF_ok (terms nons : Int) (rows : List (List Int)) : AnyOk (anyT terms) (anyT nons) (anyF terms nons rows) ∧ 1 ≤ (anyF terms nons rows).prods.length ∧ (anyF terms nons rows).prods.length ≤ 8 ∧ ∀ j, j < anyT nons → ∃ p ∈ (anyF terms nons rows).prods, p.1 = ((100 + j : Nat) : Int) := by
  have ht := anyT_ok terms
  have hn := anyT_ok nons
  have h0 : AnyOk (anyT terms) (anyT nons) (any0 terms nons) := ⟨rfl, rfl, by (intro p hp; exact absurd hp (by simp [any0])), List.nodup_nil⟩
  obtain ⟨b1, b2, b3⟩ := baseP_ok h0 ht hn (anyT nons) (Nat.le_refl _)
  obtain ⟨r1, r2, r3⟩ := rowsP_ok b1 ht hn rows (min rows.length 5)
  have hz : (any0 terms nons).prods.length = 0 := rfl
  have hex : ∀ j, j < anyT nons → ∃ p ∈ (anyF terms nons rows).prods, p.1 = ((100 + j : Nat) : Int) := fun j hj => by
    obtain ⟨p, hp, e⟩ := b3 j hj
    exact ⟨p, r3 p hp, e⟩
  refine ⟨r1, ?_, ?_, hex⟩
  · obtain ⟨p, hp, _⟩ := hex 0 (by omega)
    exact List.length_pos_of_mem hp
  · show (rowsP _ _ _).prods.length ≤ 8
    omega
theorem anyF_check (terms nons : Int) (rows : List (List Int)) : CheckG (anyF terms nons rows) := by
  obtain ⟨h, h1, h2, h3⟩ := anyF_ok terms nons rows
  have ht := anyT_ok terms
  have hn := anyT_ok nons
  have e1 : (anyF terms nons rows).terms.length = anyT terms := by rw [h.te, List.length_take]; simp; omega
  have e2 : (anyF terms nons rows).nons.length = anyT nons := by rw [h.no, List.length_take]; simp; omega
  refine ⟨by omega, by omega, by omega, by omega, h1, by omega, ?_, ?_, ?_, ?_, ?_, ?_, h.pn⟩
  · intro x hx; rw [h.te] at hx
    have := List.mem_of_mem_take hx
    simp only [List.mem_cons, List.not_mem_nil, or_false] at this
    rcases this with rfl | rfl | rfl <;> decide
  · rw [h.te]; exact List.Nodup.sublist (List.take_sublist _ _) (by decide)
  · intro x hx; rw [h.no] at hx
    have := List.mem_of_mem_take hx
    simp only [List.mem_cons, List.not_mem_nil, or_false] at this
    rcases this with rfl | rfl | rfl <;> decide
  · rw [h.no]; exact List.Nodup.sublist (List.take_sublist _ _) (by decide)
  · intro i hi; exact h3 i (by omega)
  · intro p hp
    obtain ⟨p1, p2, p3⟩ := h.pv p hp
    rw [e1, e2]
    exact ⟨p1, by omega, p3⟩

end Go.Proofs.YtejjdfmobiegdaaDoor
