/- What chapter 4 says of a text as a grammar, as plain functions on lists of tokens. No program here. -/
import Derived.Test.YtdnlbmdmaiacaaaSpec
namespace Go.Proofs.Ytdnlbmdmaiacaaa.Doc

/-- A grammar, plainly: names are lists of bytes; a production is its left and its right. -/
structure Gr where
  terms : List (List UInt8)
  nons : List (List UInt8)
  prods : List (Int × List Int)
deriving DecidableEq

/-- A rule: its name's token, and all behind the colon, the line's end with it. -/
structure Ru where
  name : Tok
  rest : List Tok
deriving DecidableEq

/-- Where one is within a line: at its start, behind its name, within its parts. -/
inductive At where
  | start
  | named (t : Tok)
  | parts (t : Tok) (l : List Tok)
deriving DecidableEq

/-- The rules of tokens; the first token that may not stand there. -/
def ruleF : List Tok → At → List Ru × Option Tok
  | [], _ => ([], none)
  | t :: l, .start => if t.kind = 5 then ruleF l .start else if t.kind = 1 then ruleF l (.named t) else ([], some t)
  | t :: l, .named n => if t.kind = 3 then ruleF l (.parts n []) else ([], some t)
  | t :: l, .parts n r => if t.kind = 3 then ([], some t) else if t.kind = 5 then (⟨n, r ++ [t]⟩ :: (ruleF l .start).1, (ruleF l .start).2) else ruleF l (.parts n (r ++ [t]))

/-- Where a text stands in a list. -/
def idx (l : List (List UInt8)) (s : List UInt8) : Option Nat := l.findIdx? (· == s)

/-- How reading ends: the grammar; or the place, and the error's number. -/
inductive End where
  | ok (g : Gr)
  | bad (line col e : Nat)
deriving DecidableEq

/-- The rules' names (the errors by api's numbers: 2 no form, 3 none, 4 twice, 5 too many). -/
def namesF : List Ru → List (List UInt8) → List (List UInt8) ⊕ (Nat × Nat × Nat)
  | [], ns => .inl ns
  | r :: l, ns => if (idx ns r.name.text).isSome then .inr (r.name.line, r.name.col, 4)
    else if 8 ≤ ns.length then .inr (r.name.line, r.name.col, 5)
    else namesF l (ns ++ [r.name.text])

/-- The parts of one rule: the terminals so far, the productions so far, the part's symbols so far, where the part begins. -/
def partsF (nons : List (List UInt8)) (left : Int) : List Tok → List (List UInt8) → List (Int × List Int) → List Int → Tok → (List (List UInt8) × List (Int × List Int)) ⊕ (Nat × Nat × Nat)
  | [], ts, ps, _, _ => .inl (ts, ps)
  | t :: l, ts, ps, r, b =>
    if t.kind = 1 ∨ t.kind = 2 then
      if 6 ≤ r.length then .inr (t.line, t.col, 5)
      else if t.kind = 1 then
        match idx nons t.text with
        | none => .inr (t.line, t.col, 3)
        | some k => partsF nons left l ts ps (r ++ [((100 + k : Nat) : Int)]) b
      else
        match idx ts t.text with
        | some k => partsF nons left l ts ps (r ++ [((k + 1 : Nat) : Int)]) b
        | none => if 8 ≤ ts.length then .inr (t.line, t.col, 5) else partsF nons left l (ts ++ [t.text]) ps (r ++ [((ts.length + 1 : Nat) : Int)]) b
    else if 24 ≤ ps.length then .inr (b.line, b.col, 5)
    else if (left, r) ∈ ps then .inr (b.line, b.col, 4)
    else partsF nons left l ts (ps ++ [(left, r)]) [] (l.headD b)

/-- All rules' parts, from the rule numbered i on. -/
def bodiesF (nons : List (List UInt8)) : List Ru → Nat → List (List UInt8) → List (Int × List Int) → (List (List UInt8) × List (Int × List Int)) ⊕ (Nat × Nat × Nat)
  | [], _, ts, ps => .inl (ts, ps)
  | r :: l, i, ts, ps =>
    match partsF nons ((100 + i : Nat) : Int) r.rest ts ps [] (r.rest.headD r.name) with
    | .inr e => .inr e
    | .inl (ts', ps') => bodiesF nons l (i + 1) ts' ps'

/-- A text as a grammar. -/
def parse (t : List UInt8) : End :=
  if (txt t 1).2 ≠ (0, 0) then .bad (txt t 1).2.1 (txt t 1).2.2 2
  else match (ruleF (txt t 1).1 .start).2 with
  | some b => .bad b.line b.col 2
  | none =>
    if (ruleF (txt t 1).1 .start).1 = [] then .bad 0 0 2
    else match namesF (ruleF (txt t 1).1 .start).1 [] with
    | .inr (a, b, e) => .bad a b e
    | .inl ns =>
      match bodiesF ns (ruleF (txt t 1).1 .start).1 0 [] [] with
      | .inr (a, b, e) => .bad a b e
      | .inl (ts, ps) => if ts = [] then .bad 0 0 2 else .ok ⟨ts, ns, ps⟩

end Go.Proofs.Ytdnlbmdmaiacaaa.Doc
