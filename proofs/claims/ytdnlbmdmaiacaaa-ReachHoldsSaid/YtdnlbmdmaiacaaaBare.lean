/- Reading a grammar where nothing is wrong: the places do not count. No program here. -/
import Derived.Test.YtdnlbmdmaiacaaaRead
namespace Go.Proofs.Ytdnlbmdmaiacaaa.Doc

abbrev Bare := Nat × List UInt8
def bare (t : Tok) : Bare := (t.kind, t.text)

inductive AtB where
  | start
  | named (n : List UInt8)
  | parts (n : List UInt8) (l : List Bare)

def At.bare : At → AtB
  | .start => .start
  | .named t => .named t.text
  | .parts t l => .parts t.text (l.map Doc.bare)

def ruleB : List Bare → AtB → Option (List (List UInt8 × List Bare))
  | [], _ => some []
  | t :: l, .start => if t.1 = 5 then ruleB l .start else if t.1 = 1 then ruleB l (.named t.2) else none
  | t :: l, .named n => if t.1 = 3 then ruleB l (.parts n []) else none
  | t :: l, .parts n r => if t.1 = 3 then none else if t.1 = 5 then (ruleB l .start).map ((n, r ++ [t]) :: ·) else ruleB l (.parts n (r ++ [t]))

def Ru.bare (r : Ru) : List UInt8 × List Bare := (r.name.text, r.rest.map Doc.bare)

theorem rule_bare : ∀ (l : List Tok) (a : At), ruleB (l.map bare) a.bare = if (ruleF l a).2 = none then some ((ruleF l a).1.map Ru.bare) else none
  | [], a => by cases a <;> rfl
  | t :: l, .start => by
    have ih1 := rule_bare l .start
    have ih2 := rule_bare l (.named t)
    simp only [List.map_cons, At.bare, ruleB, ruleF, bare]
    by_cases h5 : t.kind = 5
    · simp only [h5, if_true]; exact ih1
    · by_cases h1 : t.kind = 1
      · simp only [h1]; exact ih2
      · simp [h5, h1]
  | t :: l, .named n => by
    have ih := rule_bare l (.parts n [])
    simp only [List.map_cons, At.bare, ruleB, ruleF, bare]
    by_cases h3 : t.kind = 3
    · simp only [h3, if_true]; exact ih
    · simp [h3]
  | t :: l, .parts n r => by
    have ih1 := rule_bare l .start
    have ih2 := rule_bare l (.parts n (r ++ [t]))
    simp only [List.map_cons, At.bare, ruleB, ruleF, bare]
    by_cases h3 : t.kind = 3
    · simp [h3]
    · by_cases h5 : t.kind = 5
      · simp only [h5]
        simp only [At.bare] at ih1
        rw [show ruleB (List.map bare l) AtB.start = _ from ih1]
        by_cases hn : (ruleF l .start).2 = none
        · simp [hn, Ru.bare, bare, h5]
        · simp [hn]
      · simp only [if_neg h3, if_neg h5]
        rw [show (List.map Doc.bare r ++ [(t.kind, t.text)]) = (r ++ [t]).map Doc.bare by simp [bare]]
        exact ih2

def namesB : List (List UInt8) → List (List UInt8) → Option (List (List UInt8))
  | [], ns => some ns
  | n :: l, ns => if (idx ns n).isSome then none else if 8 ≤ ns.length then none else namesB l (ns ++ [n])

theorem names_bare : ∀ (l : List Ru) (ns : List (List UInt8)), namesB (l.map fun r => r.name.text) ns = match namesF l ns with | .inl x => some x | .inr _ => none
  | [], ns => rfl
  | r :: l, ns => by
    have ih := names_bare l (ns ++ [r.name.text])
    simp only [List.map_cons, namesB, namesF]
    split
    · rfl
    · split
      · rfl
      · exact ih

def partsB (nons : List (List UInt8)) (left : Int) : List Bare → List (List UInt8) → List (Int × List Int) → List Int → Option (List (List UInt8) × List (Int × List Int))
  | [], ts, ps, _ => some (ts, ps)
  | t :: l, ts, ps, r =>
    if t.1 = 1 ∨ t.1 = 2 then
      if 6 ≤ r.length then none
      else if t.1 = 1 then
        match idx nons t.2 with
        | none => none
        | some k => partsB nons left l ts ps (r ++ [((100 + k : Nat) : Int)])
      else
        match idx ts t.2 with
        | some k => partsB nons left l ts ps (r ++ [((k + 1 : Nat) : Int)])
        | none => if 8 ≤ ts.length then none else partsB nons left l (ts ++ [t.2]) ps (r ++ [((ts.length + 1 : Nat) : Int)])
    else if 24 ≤ ps.length then none
    else if (left, r) ∈ ps then none
    else partsB nons left l ts (ps ++ [(left, r)]) []

theorem parts_bare (nons : List (List UInt8)) (left : Int) : ∀ (l : List Tok) (ts : List (List UInt8)) (ps : List (Int × List Int)) (r : List Int) (b : Tok),
    partsB nons left (l.map bare) ts ps r = match partsF nons left l ts ps r b with | .inl x => some x | .inr _ => none
  | [], ts, ps, r, b => rfl
  | t :: l, ts, ps, r, b => by
    simp only [List.map_cons, partsB, partsF, bare]
    by_cases h : t.kind = 1 ∨ t.kind = 2
    · simp only [if_pos h]
      by_cases h6 : 6 ≤ r.length
      · simp [h6]
      · simp only [if_neg h6]
        by_cases h1 : t.kind = 1
        · simp only [if_pos h1]
          cases idx nons t.text with
          | none => rfl
          | some k => exact parts_bare nons left l ts ps _ b
        · simp only [if_neg h1]
          cases idx ts t.text with
          | none =>
            by_cases h8 : 8 ≤ ts.length
            · simp [h8]
            · simp only [if_neg h8]; exact parts_bare nons left l _ ps _ b
          | some k => exact parts_bare nons left l ts ps _ b
    · simp only [if_neg h]
      by_cases h24 : 24 ≤ ps.length
      · simp [h24]
      · simp only [if_neg h24]
        by_cases hm : (left, r) ∈ ps
        · simp [hm]
        · simp only [if_neg hm]; exact parts_bare nons left l ts _ [] _

def bodiesB (nons : List (List UInt8)) : List (List UInt8 × List Bare) → Nat → List (List UInt8) → List (Int × List Int) → Option (List (List UInt8) × List (Int × List Int))
  | [], _, ts, ps => some (ts, ps)
  | r :: l, i, ts, ps =>
    match partsB nons ((100 + i : Nat) : Int) r.2 ts ps [] with
    | none => none
    | some x => bodiesB nons l (i + 1) x.1 x.2

theorem bodies_bare (nons : List (List UInt8)) : ∀ (l : List Ru) (i : Nat) (ts : List (List UInt8)) (ps : List (Int × List Int)),
    bodiesB nons (l.map Ru.bare) i ts ps = match bodiesF nons l i ts ps with | .inl x => some x | .inr _ => none
  | [], _, _, _ => rfl
  | r :: l, i, ts, ps => by
    have h := parts_bare nons ((100 + i : Nat) : Int) r.rest ts ps [] (r.rest.headD r.name)
    simp only [List.map_cons, bodiesB, bodiesF, Ru.bare]
    rw [h]
    cases partsF nons ((100 + i : Nat) : Int) r.rest ts ps [] (r.rest.headD r.name) with
    | inr e => rfl
    | inl x => exact bodies_bare nons l (i + 1) x.1 x.2

def parseB (l : List Bare) : Option Gr :=
  match ruleB l .start with
  | none => none
  | some rs => if rs = [] then none else
    match namesB (rs.map (·.1)) [] with
    | none => none
    | some ns => match bodiesB ns rs 0 [] [] with
      | none => none
      | some x => if x.1 = [] then none else some ⟨x.1, ns, x.2⟩

/-- Reading ends well just if nothing is wrong in its tokens, and they read as that grammar. -/
theorem parse_iff (t : List UInt8) (g : Gr) : parse t = .ok g ↔ (txt t 1).2 = (0, 0) ∧ parseB ((txt t 1).1.map bare) = some g := by
  unfold parse parseB
  by_cases h0 : (txt t 1).2 = (0, 0)
  · rw [if_neg (by simpa using h0)]
    have hr := rule_bare (txt t 1).1 .start
    simp only [At.bare] at hr
    rw [hr]
    cases hb : (ruleF (txt t 1).1 .start).2 with
    | some b => simp
    | none =>
      simp only [if_true]
      generalize (ruleF (txt t 1).1 .start).1 = rs
      by_cases he : rs = []
      · subst he; simp
      · have he2 : ¬ rs.map Ru.bare = [] := by simpa using he
        simp only [if_neg he, if_neg he2]
        have hn := names_bare rs []
        have hm : (rs.map Ru.bare).map (·.1) = rs.map fun r => r.name.text := by simp [Ru.bare]
        rw [hm, hn]
        cases namesF rs [] with
        | inr e => simp
        | inl ns =>
          simp only []
          have hbo := bodies_bare ns rs 0 [] []
          rw [hbo]
          cases bodiesF ns rs 0 [] [] with
          | inr e => simp
          | inl x =>
            obtain ⟨a, b⟩ := x
            simp only []
            by_cases ha : a = []
            · simp [ha]
            · simp [ha, h0]
  · rw [if_pos (by simpa using h0)]
    simp [h0]

end Go.Proofs.Ytdnlbmdmaiacaaa.Doc
