/- A part, name by name: plain functions, and what the reading by tokens is in their words. No program here. symbol: a name's number. symbol, in the plain functions' words. addProd: a part becomes a production. addParts: the parts of a rule. -/
import Derived.Test.YtejjdfmobiegdaaDoorSpec
import Derived.Test.YtejjdfmobiegdaaDoorFind
import Derived.Test.YtejjdfmobiegdaaDoorForm
import Derived.RegionDies
namespace Go.Proofs.YtejjdfmobiegdaaDoor
open Doc

abbrev Err := Nat × Nat × Nat

/-- A name's number, and the terminals behind it; or the error's number. -/
def symF (nons ts : List (List UInt8)) (t : Tok) : (List (List UInt8) × Int) ⊕ Nat :=
  if t.kind = 1 then
    match idx nons t.text with
    | none => .inr 3
    | some k => .inl (ts, ((100 + k : Nat) : Int))
  else
    match idx ts t.text with
    | some k => .inl (ts, ((k + 1 : Nat) : Int))
    | none => if 8 ≤ ts.length then .inr 5 else .inl (ts ++ [t.text], ((ts.length + 1 : Nat) : Int))

/-- The names of a part. -/
def rowF (nons : List (List UInt8)) : List Tok → List (List UInt8) → List Int → (List (List UInt8) × List Int) ⊕ Err
  | [], ts, r => .inl (ts, r)
  | t :: l, ts, r =>
    if 6 ≤ r.length then .inr (t.line, t.col, 5)
    else match symF nons ts t with
    | .inr e => .inr (t.line, t.col, e)
    | .inl (ts', s) => rowF nons l ts' (r ++ [s])

/-- A part, its first token being b. -/
def prodF (nons : List (List UInt8)) (left : Int) (names : List Tok) (b : Tok) (ts : List (List UInt8)) (ps : List (Int × List Int)) : (List (List UInt8) × List (Int × List Int)) ⊕ Err :=
  match rowF nons names ts [] with
  | .inr e => .inr e
  | .inl (ts', r) => if 24 ≤ ps.length then .inr (b.line, b.col, 5) else if (left, r) ∈ ps then .inr (b.line, b.col, 4) else .inl (ts', ps ++ [(left, r)])

def isName (t : Tok) : Prop := t.kind = 1 ∨ t.kind = 2

theorem parts_rows (nons : List (List UInt8)) (left : Int) : ∀ (names l : List Tok) (ts : List (List UInt8)) (ps : List (Int × List Int)) (r : List Int) (b : Tok), (∀ t ∈ names, isName t) →
    partsF nons left (names ++ l) ts ps r b = match rowF nons names ts r with
    | .inr e => .inr e
    | .inl (ts', r') => partsF nons left l ts' ps r' b
  | [], l, ts, ps, r, b, _ => rfl
  | t :: names, l, ts, ps, r, b, hn => by
    have ht : t.kind = 1 ∨ t.kind = 2 := hn t List.mem_cons_self
    have hn' : ∀ x ∈ names, isName x := fun x hx => hn x (List.mem_cons_of_mem _ hx)
    simp only [List.cons_append, partsF, rowF, if_pos ht]
    by_cases h6 : 6 ≤ r.length
    · simp only [if_pos h6]
    · simp only [if_neg h6, symF]
      by_cases h1 : t.kind = 1
      · simp only [if_pos h1]
        cases hi : idx nons t.text with
        | none => rfl
        | some k => exact parts_rows nons left names l ts ps _ b hn'
      · simp only [if_neg h1]
        cases hi : idx ts t.text with
        | some k => exact parts_rows nons left names l ts ps _ b hn'
        | none =>
          by_cases h8 : 8 ≤ ts.length
          · simp only [if_pos h8]
          · simp only [if_neg h8]
            exact parts_rows nons left names l _ ps _ b hn'

theorem parts_prod (nons : List (List UInt8)) (left : Int) (names : List Tok) (t : Tok) (l : List Tok) (ts : List (List UInt8)) (ps : List (Int × List Int)) (b : Tok) (hn : ∀ x ∈ names, isName x) (ht : ¬ isName t) :
    partsF nons left (names ++ t :: l) ts ps [] b = match prodF nons left names b ts ps with
    | .inr e => .inr e
    | .inl (ts', ps') => partsF nons left l ts' ps' [] (l.headD b) := by
  rw [parts_rows nons left names (t :: l) ts ps [] b hn]
  unfold prodF
  cases hr : rowF nons names ts [] with
  | inr e => rfl
  | inl x =>
    obtain ⟨ts', r⟩ := x
    simp only [partsF]
    rw [if_neg (show ¬ (t.kind = 1 ∨ t.kind = 2) from ht)]
    by_cases h24 : 24 ≤ ps.length
    · simp only [if_pos h24]
    · simp only [if_neg h24]
      by_cases hm : (left, r) ∈ ps
      · simp only [if_pos hm]
      · simp only [if_neg hm]

/-- A token as scan tells it. -/
structure FairT (t : Tok) : Prop where
  u : t.kind = 1 → kindOf t.text = 1
  l : t.kind = 2 → kindOf t.text = 2
  one : 1 ≤ t.kind
  five : t.kind ≤ 5

theorem not_dollar {x : List UInt8} (h : kindOf x ≠ 0) : x ≠ [36] := by
  rintro rfl
  exact h (by decide)

/-- What gram.Find tells of a name. -/
theorem find_sym (nons ts : List (List UInt8)) (ps : List (Int × List Int)) (t : Tok) (ht : isName t) (hf : FairT t) (hT : ∀ x ∈ ts, kindOf x = 2) (hN : ∀ x ∈ nons, kindOf x = 1) :
    match symF nons ts t with
    | .inl (ts', s) => findG ⟨ts, nons, ps⟩ t.text = (s, true) ∧ ts' = ts ∨ findG ⟨ts, nons, ps⟩ t.text = (0, false) ∧ t.kind ≠ 1 ∧ ts.length < 8 ∧ ts' = ts ++ [t.text] ∧ s = ((ts.length + 1 : Nat) : Int)
    | .inr e => findG ⟨ts, nons, ps⟩ t.text = (0, false) ∧ (t.kind = 1 ∧ e = 3 ∨ t.kind ≠ 1 ∧ 8 ≤ ts.length ∧ e = 5) := by
  unfold symF
  by_cases h1 : t.kind = 1
  · rw [if_pos h1]
    have hk := hf.u h1
    have hd := not_dollar (x := t.text) (by omega)
    have hi : idx ts t.text = none := idx_out fun hm => by have := hT _ hm; omega
    cases hj : idx nons t.text with
    | none =>
      refine ⟨?_, .inl ⟨h1, rfl⟩⟩
      unfold findG
      simp only [if_neg hd, hi, hj]
    | some k =>
      refine .inl ⟨?_, rfl⟩
      unfold findG
      simp only [if_neg hd, hi, hj]
      push_cast; rfl
  · rw [if_neg h1]
    have hk := hf.l (ht.resolve_left h1)
    have hd := not_dollar (x := t.text) (by omega)
    have hj : idx nons t.text = none := idx_out fun hm => by have := hN _ hm; omega
    cases hi : idx ts t.text with
    | some k =>
      refine .inl ⟨?_, rfl⟩
      unfold findG
      simp only [if_neg hd, hi]
      push_cast; rfl
    | none =>
      have hfind : findG ⟨ts, nons, ps⟩ t.text = (0, false) := by
        unfold findG
        simp only [if_neg hd, hi, hj]
      by_cases h8 : 8 ≤ ts.length
      · simp only [if_pos h8]
        exact ⟨hfind, .inr ⟨h1, h8, trivial⟩⟩
      · simp only [if_neg h8]
        exact .inr ⟨hfind, h1, by omega, trivial, trivial⟩

/-- What stays true of the terminals. -/
theorem sym_terms {nons ts ts' : List (List UInt8)} {t : Tok} {s : Int} (h : symF nons ts t = .inl (ts', s)) (ht : isName t) (hf : FairT t) (hT : ∀ x ∈ ts, kindOf x = 2) (h8 : ts.length ≤ 8) : (∀ x ∈ ts', kindOf x = 2) ∧ ts'.length ≤ 8 := by
  unfold symF at h
  by_cases h1 : t.kind = 1
  · rw [if_pos h1] at h
    cases hj : idx nons t.text with
    | none => rw [hj] at h; cases h
    | some k => rw [hj] at h; cases h; exact ⟨hT, h8⟩
  · rw [if_neg h1] at h
    cases hi : idx ts t.text with
    | some k => rw [hi] at h; cases h; exact ⟨hT, h8⟩
    | none =>
      rw [hi] at h
      by_cases h8' : 8 ≤ ts.length
      · simp only [if_pos h8'] at h; cases h
      · simp only [if_neg h8'] at h
        cases h
        refine ⟨fun x hx => ?_, by simp; omega⟩
        rcases List.mem_append.1 hx with hx | hx
        · exact hT x hx
        · rw [List.mem_singleton.1 hx]; exact hf.l (ht.resolve_left h1)

end Go.Proofs.YtejjdfmobiegdaaDoor

namespace Go.Proofs.YtejjdfmobiegdaaDoor
open Go.RowKit
open Doc

section
variable {b : Nat} {w : World} {ts ns : List (List UInt8)} {ls : List Lay} {at_ an ap : Option Addr} {ct cn cp : Nat}

end

end Go.Proofs.YtejjdfmobiegdaaDoor

namespace Go.Proofs.YtejjdfmobiegdaaDoor
open Go.RowKit
open Doc

section
variable {b : Nat} {w : World} {ts ns : List (List UInt8)} {ls : List Lay} {at_ an ap : Option Addr} {ct cn cp : Nat}

/-- The builder, its rows wherever they are: what stays true besides. -/
structure Names (ts ns : List (List UInt8)) : Prop where
  tk : ∀ x ∈ ts, kindOf x = 2
  nk : ∀ x ∈ ns, kindOf x = 1
  tl : ts.length ≤ 8
  nl : ns.length ≤ 8

end

end Go.Proofs.YtejjdfmobiegdaaDoor

namespace Go.Proofs.YtejjdfmobiegdaaDoor
open Go.RowKit
open Doc

/-- The cells xs lie at a, whatever is made or written from block b on. -/
def Under (b : Nat) (w : World) (a : Option Addr) (xs : List Value) : Prop := ∀ W, Below b w W → Cells W a xs
theorem Under.trans {b : Nat} {w w' : World} {a : Option Addr} {xs : List Value} (h : Under b w a xs) (hb : Below b w w') : Under b w' a xs := fun W hW => h W (hb.trans hW)

section
variable {b : Nat} {w : World} {ts ns : List (List UInt8)} {ls : List Lay} {at_ an ap : Option Addr} {ct cn cp : Nat}

theorem own_base {w : World} {B B' e size n : Nat} {v : Value} {xs : List Value} (h : w.ownsRow B e size v n xs) (hB : B' ≤ B) : w.ownsRow B' e size v n xs := by
  refine ⟨h.1, ?_⟩
  rcases h.2 with h0 | ⟨g, cap, cur, hv, hg, rest⟩
  · exact .inl h0
  · exact .inr ⟨g, cap, cur, hv, Nat.le_trans hB hg, rest⟩

theorem any_mem (ls : List Lay) (x : Int × List Int) : (ls.any fun q => decide (x = q.plain)) = true ↔ x ∈ ls.map Lay.plain := by
  rw [List.any_eq_true, List.mem_map]
  constructor
  · rintro ⟨q, hq, h⟩; exact ⟨q, hq, (of_decide_eq_true h).symm⟩
  · rintro ⟨q, hq, h⟩; exact ⟨q, hq, decide_eq_true h.symm⟩

end

end Go.Proofs.YtejjdfmobiegdaaDoor

namespace Go.Proofs.YtejjdfmobiegdaaDoor
open Go.RowKit
open Doc

theorem prod_len {nons : List (List UInt8)} {left : Int} {names : List Tok} {p : Tok} {ts : List (List UInt8)} {ps : List (Int × List Int)} {x : List (List UInt8) × List (Int × List Int)} (h : prodF nons left names p ts ps = .inl x) : x.2.length ≤ 24 := by
  unfold prodF at h
  cases hr : rowF nons names ts [] with
  | inr e => rw [hr] at h; cases h
  | inl y =>
    rw [hr] at h
    simp only at h
    split at h
    · cases h
    · split at h
      · cases h
      · cases h; simp; omega

theorem parts_head (nons : List (List UInt8)) (left : Int) (l : List Tok) (ts : List (List UInt8)) (ps : List (Int × List Int)) (r : List Int) (x y : Tok) : partsF nons left l ts ps r (l.headD x) = partsF nons left l ts ps r (l.headD y) := by
  cases l <;> rfl

theorem tall_take (l : List Tok) (k : Nat) : tall (l.take k) = (tall l).take (k * 4) := by
  induction l generalizing k with
  | nil => simp [tall]
  | cons t l ih =>
    cases k with
    | zero => simp [tall]
    | succ k =>
      rw [List.take_succ_cons, tall_cons, tall_cons, ih, show (k + 1) * 4 = (tcells t).length + k * 4 by simp [tcells]; omega, List.take_length_add_append]
theorem tall_drop (l : List Tok) (k : Nat) : tall (l.drop k) = (tall l).drop (k * 4) := by
  induction l generalizing k with
  | nil => simp [tall]
  | cons t l ih =>
    cases k with
    | zero => simp
    | succ k =>
      rw [List.drop_succ_cons, tall_cons, ih, show (k + 1) * 4 = (tcells t).length + k * 4 by simp [tcells]; omega, ← List.drop_drop, List.drop_left]

/-- A part of what lies there. -/
theorem Cells.sub {w : World} {b off : Nat} {l : List Tok} (h : Cells w (some ⟨b, off, none⟩) (tall l)) (s k : Nat) : Cells w (some ⟨b, off + s * 4, none⟩) (tall ((l.drop s).take k)) := by
  rcases Nat.eq_zero_or_pos l.length with h0 | h0
  · left
    have : l = [] := List.eq_nil_of_length_eq_zero h0
    subst this
    simp [tall]
  · obtain ⟨b', off', he, hlt, hc⟩ := h.get (tall_nil_iff h0)
    cases he
    refine .inr ⟨_, _, rfl, hlt, fun j u hj => ?_⟩
    rw [tall_take, tall_drop] at hj
    have hj2 : (tall l)[s * 4 + j]? = some u := by
      rw [List.getElem?_take] at hj
      split at hj
      · rw [List.getElem?_drop] at hj; exact hj
      · cases hj
    rw [Nat.add_assoc]
    exact hc _ _ hj2
theorem Under.sub {B : Nat} {w : World} {b off : Nat} {l : List Tok} (h : Under B w (some ⟨b, off, none⟩) (tall l)) (s k : Nat) : Under B w (some ⟨b, off + s * 4, none⟩) (tall ((l.drop s).take k)) := fun W hW => (h W hW).sub s k

section
variable {b : Nat} {w : World} {ts ns : List (List UInt8)} {ls : List Lay} {at_ an ap : Option Addr} {ct cn cp : Nat}

end

end Go.Proofs.YtejjdfmobiegdaaDoor
