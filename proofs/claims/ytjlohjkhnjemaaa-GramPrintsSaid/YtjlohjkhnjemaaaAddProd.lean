/- A part, name by name: plain functions, and what the reading by tokens is in their words. No program here. symbol: a name's number. symbol, in the plain functions' words. addProd: a part becomes a production. addParts: the parts of a rule. -/
import Derived.Test.YtjlohjkhnjemaaaSpec
import Derived.Test.YtjlohjkhnjemaaaFind
import Derived.Test.YtjlohjkhnjemaaaForm
import Derived.RegionDies
namespace Go.Proofs.Ytjlohjkhnjemaaa
open Doc

abbrev Err := Nat × Nat × Nat

/-- A name's number, and the terminals behind it; or the error's number. -/
def symF (nons ts : List (List UInt8)) (t : Tok) : (List (List UInt8) × Int) ⊕ Nat :=
  if t.kind = 1 then
    match idx nons t.text with
    | none => .inr 3
    | some k => .inl (ts, ((100 + k : Nat) : Int))
  else
    match idx ts t.text with
    | some k => .inl (ts, ((k + 1 : Nat) : Int))
    | none => if 8 ≤ ts.length then .inr 5 else .inl (ts ++ [t.text], ((ts.length + 1 : Nat) : Int))

/-- The names of a part. -/
def rowF (nons : List (List UInt8)) : List Tok → List (List UInt8) → List Int → (List (List UInt8) × List Int) ⊕ Err
  | [], ts, r => .inl (ts, r)
  | t :: l, ts, r =>
    if 6 ≤ r.length then .inr (t.line, t.col, 5)
    else match symF nons ts t with
    | .inr e => .inr (t.line, t.col, e)
    | .inl (ts', s) => rowF nons l ts' (r ++ [s])

/-- A part, its first token being b. -/
def prodF (nons : List (List UInt8)) (left : Int) (names : List Tok) (b : Tok) (ts : List (List UInt8)) (ps : List (Int × List Int)) : (List (List UInt8) × List (Int × List Int)) ⊕ Err :=
  match rowF nons names ts [] with
  | .inr e => .inr e
  | .inl (ts', r) => if 24 ≤ ps.length then .inr (b.line, b.col, 5) else if (left, r) ∈ ps then .inr (b.line, b.col, 4) else .inl (ts', ps ++ [(left, r)])

def isName (t : Tok) : Prop := t.kind = 1 ∨ t.kind = 2

theorem parts_rows (nons : List (List UInt8)) (left : Int) : ∀ (names l : List Tok) (ts : List (List UInt8)) (ps : List (Int × List Int)) (r : List Int) (b : Tok), (∀ t ∈ names, isName t) →
    partsF nons left (names ++ l) ts ps r b = match rowF nons names ts r with
    | .inr e => .inr e
    | .inl (ts', r') => partsF nons left l ts' ps r' b
  | [], l, ts, ps, r, b, _ => rfl
  | t :: names, l, ts, ps, r, b, hn => by
    have ht : t.kind = 1 ∨ t.kind = 2 := hn t List.mem_cons_self
    have hn' : ∀ x ∈ names, isName x := fun x hx => hn x (List.mem_cons_of_mem _ hx)
    simp only [List.cons_append, partsF, rowF, if_pos ht]
    by_cases h6 : 6 ≤ r.length
    · simp only [if_pos h6]
    · simp only [if_neg h6, symF]
      by_cases h1 : t.kind = 1
      · simp only [if_pos h1]
        cases hi : idx nons t.text with
        | none => rfl
        | some k => exact parts_rows nons left names l ts ps _ b hn'
      · simp only [if_neg h1]
        cases hi : idx ts t.text with
        | some k => exact parts_rows nons left names l ts ps _ b hn'
        | none =>
          by_cases h8 : 8 ≤ ts.length
          · simp only [if_pos h8]
          · simp only [if_neg h8]
            exact parts_rows nons left names l _ ps _ b hn'

theorem parts_prod (nons : List (List UInt8)) (left : Int) (names : List Tok) (t : Tok) (l : List Tok) (ts : List (List UInt8)) (ps : List (Int × List Int)) (b : Tok) (hn : ∀ x ∈ names, isName x) (ht : ¬ isName t) :
    partsF nons left (names ++ t :: l) ts ps [] b = match prodF nons left names b ts ps with
    | .inr e => .inr e
    | .inl (ts', ps') => partsF nons left l ts' ps' [] (l.headD b) := by
  rw [parts_rows nons left names (t :: l) ts ps [] b hn]
  unfold prodF
  cases hr : rowF nons names ts [] with
  | inr e => rfl
  | inl x =>
    obtain ⟨ts', r⟩ := x
    simp only [partsF]
    rw [if_neg (show ¬ (t.kind = 1 ∨ t.kind = 2) from ht)]
    by_cases h24 : 24 ≤ ps.length
    · simp only [if_pos h24]
    · simp only [if_neg h24]
      by_cases hm : (left, r) ∈ ps
      · simp only [if_pos hm]
      · simp only [if_neg hm]

/-- A token as scan tells it. -/
structure FairT (t : Tok) : Prop where
  u : t.kind = 1 → kindOf t.text = 1
  l : t.kind = 2 → kindOf t.text = 2
  one : 1 ≤ t.kind
  five : t.kind ≤ 5

theorem not_dollar {x : List UInt8} (h : kindOf x ≠ 0) : x ≠ [36] := by
  rintro rfl
  exact h (by decide)

/-- What gram.Find tells of a name. -/
theorem find_sym (nons ts : List (List UInt8)) (ps : List (Int × List Int)) (t : Tok) (ht : isName t) (hf : FairT t) (hT : ∀ x ∈ ts, kindOf x = 2) (hN : ∀ x ∈ nons, kindOf x = 1) :
    match symF nons ts t with
    | .inl (ts', s) => findG ⟨ts, nons, ps⟩ t.text = (s, true) ∧ ts' = ts ∨ findG ⟨ts, nons, ps⟩ t.text = (0, false) ∧ t.kind ≠ 1 ∧ ts.length < 8 ∧ ts' = ts ++ [t.text] ∧ s = ((ts.length + 1 : Nat) : Int)
    | .inr e => findG ⟨ts, nons, ps⟩ t.text = (0, false) ∧ (t.kind = 1 ∧ e = 3 ∨ t.kind ≠ 1 ∧ 8 ≤ ts.length ∧ e = 5) := by
  unfold symF
  by_cases h1 : t.kind = 1
  · rw [if_pos h1]
    have hk := hf.u h1
    have hd := not_dollar (x := t.text) (by omega)
    have hi : idx ts t.text = none := idx_out fun hm => by have := hT _ hm; omega
    cases hj : idx nons t.text with
    | none =>
      refine ⟨?_, .inl ⟨h1, rfl⟩⟩
      unfold findG
      simp only [if_neg hd, hi, hj]
    | some k =>
      refine .inl ⟨?_, rfl⟩
      unfold findG
      simp only [if_neg hd, hi, hj]
      push_cast; rfl
  · rw [if_neg h1]
    have hk := hf.l (ht.resolve_left h1)
    have hd := not_dollar (x := t.text) (by omega)
    have hj : idx nons t.text = none := idx_out fun hm => by have := hN _ hm; omega
    cases hi : idx ts t.text with
    | some k =>
      refine .inl ⟨?_, rfl⟩
      unfold findG
      simp only [if_neg hd, hi]
      push_cast; rfl
    | none =>
      have hfind : findG ⟨ts, nons, ps⟩ t.text = (0, false) := by
        unfold findG
        simp only [if_neg hd, hi, hj]
      by_cases h8 : 8 ≤ ts.length
      · simp only [if_pos h8]
        exact ⟨hfind, .inr ⟨h1, h8, trivial⟩⟩
      · simp only [if_neg h8]
        exact .inr ⟨hfind, h1, by omega, trivial, trivial⟩

/-- What stays true of the terminals. -/
theorem sym_terms {nons ts ts' : List (List UInt8)} {t : Tok} {s : Int} (h : symF nons ts t = .inl (ts', s)) (ht : isName t) (hf : FairT t) (hT : ∀ x ∈ ts, kindOf x = 2) (h8 : ts.length ≤ 8) : (∀ x ∈ ts', kindOf x = 2) ∧ ts'.length ≤ 8 := by
  unfold symF at h
  by_cases h1 : t.kind = 1
  · rw [if_pos h1] at h
    cases hj : idx nons t.text with
    | none => rw [hj] at h; cases h
    | some k => rw [hj] at h; cases h; exact ⟨hT, h8⟩
  · rw [if_neg h1] at h
    cases hi : idx ts t.text with
    | some k => rw [hi] at h; cases h; exact ⟨hT, h8⟩
    | none =>
      rw [hi] at h
      by_cases h8' : 8 ≤ ts.length
      · simp only [if_pos h8'] at h; cases h
      · simp only [if_neg h8'] at h
        cases h
        refine ⟨fun x hx => ?_, by simp; omega⟩
        rcases List.mem_append.1 hx with hx | hx
        · exact hT x hx
        · rw [List.mem_singleton.1 hx]; exact hf.l (ht.resolve_left h1)

end Go.Proofs.Ytjlohjkhnjemaaa

namespace Go.Proofs.Ytjlohjkhnjemaaa
open Go.RowKit
open Doc

section
variable {b : Nat} {w : World} {ts ns : List (List UInt8)} {ls : List Lay} {at_ an ap : Option Addr} {ct cn cp : Nat}

theorem symbol_found (t : Tok) (s : Int) (h : Bld b w ts ns ls at_ an ap ct cn cp) (hts : ts.length ≤ 1000000) (hns : ns.length ≤ 1000000) (hf : findG ⟨ts, ns, ls.map Lay.plain⟩ t.text = (s, true)) :
    Calls Try.prog 181 #[.pointer (some ⟨b, 0, none⟩), tokV t] w fun e w' => e = .returned (.int .i64 s) ∧ Below w.heap.size w w' := by
  have hS : Below w.heap.size w (w.alloc (.cells #[.int .i64 t.kind, .string ⟨t.text.toArray⟩, .int .i64 t.line, .int .i64 t.col] 198)) := (Below.refl _ _).alloc (Nat.le_refl _) _
  have h' := h.alloc (.cells #[.int .i64 t.kind, .string ⟨t.text.toArray⟩, .int .i64 t.line, .int .i64 t.col] 198)
  obtain ⟨b0, b1, b2⟩ := h'.cell
  have hbw := h'.lt
  have hblt := h.lt
  have k0 : (w.alloc (.cells #[.int .i64 t.kind, .string ⟨t.text.toArray⟩, .int .i64 t.line, .int .i64 t.col] 198)).cell? ⟨w.heap.size, 0, none⟩ = some (.int .i64 t.kind) := by go_simp
  have k1 : (w.alloc (.cells #[.int .i64 t.kind, .string ⟨t.text.toArray⟩, .int .i64 t.line, .int .i64 t.col] 198)).cell? ⟨w.heap.size, 1, none⟩ = some (.string ⟨t.text.toArray⟩) := by go_simp
  have k2 : (w.alloc (.cells #[.int .i64 t.kind, .string ⟨t.text.toArray⟩, .int .i64 t.line, .int .i64 t.col] 198)).cell? ⟨w.heap.size, 2, none⟩ = some (.int .i64 t.line) := by go_simp
  have k3 : (w.alloc (.cells #[.int .i64 t.kind, .string ⟨t.text.toArray⟩, .int .i64 t.line, .int .i64 t.col] 198)).cell? ⟨w.heap.size, 3, none⟩ = some (.int .i64 t.col) := by go_simp
  have hsz : (w.alloc (.cells #[.int .i64 t.kind, .string ⟨t.text.toArray⟩, .int .i64 t.line, .int .i64 t.col] 198)).heap.size = w.heap.size + 1 := by simp
  unfold tokV
  go_enter Try.func181, Try.ntmps181
  go_wp2
  generalize w.alloc (.cells #[.int .i64 t.kind, .string ⟨t.text.toArray⟩, .int .i64 t.line, .int .i64 t.col] 198) = S at *
  have HF0 := Lib.hid ((gfind_any _ ⟨ts, ns, ls.map Lay.plain⟩ t.text S.drew (h'.gram.below (Below.refl _ _).drew) hns hts).mono fun e w' he => (⟨he.1.trans (by rw [hf]), he.2⟩ : e = Ending.returned (.tuple #[.int .i64 s, .bool true]) ∧ Below S.drew.heap.size S.drew w'))
  clear hf
  go_region_with (go_at_call 22; with_reducible refine HF0.out.mono ?_
                  rintro e w2 ⟨rfl, hb2⟩)
  all_goals
    go_wp2
    go_ret
    exact ⟨rfl, hS.drew.trans (hb2.mono hS.size)⟩

theorem symbol_none (t : Tok) (h : Bld b w ts ns ls at_ an ap ct cn cp) (hts : ts.length ≤ 1000000) (hns : ns.length ≤ 1000000) (hk : t.kind = 1) (hf : findG ⟨ts, ns, ls.map Lay.plain⟩ t.text = (0, false)) :
    Calls Try.prog 181 #[.pointer (some ⟨b, 0, none⟩), tokV t] w fun e w' => e = .panicked [{ v := faultV t.line t.col 3, recovered := false }] ∧ Below w.heap.size w w' := by
  have hS : Below w.heap.size w (w.alloc (.cells #[.int .i64 t.kind, .string ⟨t.text.toArray⟩, .int .i64 t.line, .int .i64 t.col] 198)) := (Below.refl _ _).alloc (Nat.le_refl _) _
  have h' := h.alloc (.cells #[.int .i64 t.kind, .string ⟨t.text.toArray⟩, .int .i64 t.line, .int .i64 t.col] 198)
  obtain ⟨b0, b1, b2⟩ := h'.cell
  have hbw := h'.lt
  have hblt := h.lt
  have k0 : (w.alloc (.cells #[.int .i64 t.kind, .string ⟨t.text.toArray⟩, .int .i64 t.line, .int .i64 t.col] 198)).cell? ⟨w.heap.size, 0, none⟩ = some (.int .i64 t.kind) := by go_simp
  have k1 : (w.alloc (.cells #[.int .i64 t.kind, .string ⟨t.text.toArray⟩, .int .i64 t.line, .int .i64 t.col] 198)).cell? ⟨w.heap.size, 1, none⟩ = some (.string ⟨t.text.toArray⟩) := by go_simp
  have k2 : (w.alloc (.cells #[.int .i64 t.kind, .string ⟨t.text.toArray⟩, .int .i64 t.line, .int .i64 t.col] 198)).cell? ⟨w.heap.size, 2, none⟩ = some (.int .i64 t.line) := by go_simp
  have k3 : (w.alloc (.cells #[.int .i64 t.kind, .string ⟨t.text.toArray⟩, .int .i64 t.line, .int .i64 t.col] 198)).cell? ⟨w.heap.size, 3, none⟩ = some (.int .i64 t.col) := by go_simp
  have hsz : (w.alloc (.cells #[.int .i64 t.kind, .string ⟨t.text.toArray⟩, .int .i64 t.line, .int .i64 t.col] 198)).heap.size = w.heap.size + 1 := by simp
  have hk1 : ((t.kind : Int) == 1) = true := by simp [hk]
  clear hk
  unfold tokV
  go_enter Try.func181, Try.ntmps181
  go_wp2
  generalize w.alloc (.cells #[.int .i64 t.kind, .string ⟨t.text.toArray⟩, .int .i64 t.line, .int .i64 t.col] 198) = S at *
  have HF0 := Lib.hid ((gfind_any _ ⟨ts, ns, ls.map Lay.plain⟩ t.text S.drew (h'.gram.below (Below.refl _ _).drew) hns hts).mono fun e w' he => (⟨he.1.trans (by rw [hf]), he.2⟩ : e = Ending.returned (.tuple #[.int .i64 0, .bool false]) ∧ Below S.drew.heap.size S.drew w'))
  clear hf
  go_region_with (go_at_call 22; with_reducible refine HF0.out.mono ?_
                  rintro e w2 ⟨rfl, hb2⟩)
  all_goals
    have hb3 : Below S.heap.size S w2 := (Below.refl _ _).drew.trans hb2
    have h2 := h'.below hb3
    have hb4 : Below w.heap.size w w2 := hS.trans (hb3.mono hS.size)
    obtain ⟨d0, d1, d2⟩ := h2.cell
    have hlk : w.heap.size < S.heap.size := by omega
    have q0 := (hb3.cell (p := ⟨w.heap.size, 0, none⟩) hlk).trans k0
    have q1 := (hb3.cell (p := ⟨w.heap.size, 1, none⟩) hlk).trans k1
    have q2 := (hb3.cell (p := ⟨w.heap.size, 2, none⟩) hlk).trans k2
    have q3 := (hb3.cell (p := ⟨w.heap.size, 3, none⟩) hlk).trans k3
    have HZ := Lib.hid (show w.heap.size < w2.heap.size from Nat.lt_of_lt_of_le hlk hb3.size)
    have hlt2 : b < w2.heap.size := h2.lt
    clear hb2 hb3 b0 b1 b2 k0 k1 k2 k3 h' hS HF0 hsz hbw hlk
    go_wp2_with (go_at_call 169; refine (refuse_any t 3 _).mono ?_; rintro e w3 ⟨rfl, hb3⟩)
    exact ⟨rfl, rfl, hb4.trans (hb3.mono hb4.size)⟩

theorem symbol_limit (t : Tok) (h : Bld b w ts ns ls at_ an ap ct cn cp) (hts : ts.length ≤ 1000000) (hns : ns.length ≤ 1000000) (hk : t.kind ≠ 1) (h8 : ts.length = 8) (hf : findG ⟨ts, ns, ls.map Lay.plain⟩ t.text = (0, false)) :
    Calls Try.prog 181 #[.pointer (some ⟨b, 0, none⟩), tokV t] w fun e w' => e = .panicked [{ v := faultV t.line t.col 5, recovered := false }] ∧ Below w.heap.size w w' := by
  have hS : Below w.heap.size w (w.alloc (.cells #[.int .i64 t.kind, .string ⟨t.text.toArray⟩, .int .i64 t.line, .int .i64 t.col] 198)) := (Below.refl _ _).alloc (Nat.le_refl _) _
  have h' := h.alloc (.cells #[.int .i64 t.kind, .string ⟨t.text.toArray⟩, .int .i64 t.line, .int .i64 t.col] 198)
  obtain ⟨b0, b1, b2⟩ := h'.cell
  have hbw := h'.lt
  have hblt := h.lt
  have k0 : (w.alloc (.cells #[.int .i64 t.kind, .string ⟨t.text.toArray⟩, .int .i64 t.line, .int .i64 t.col] 198)).cell? ⟨w.heap.size, 0, none⟩ = some (.int .i64 t.kind) := by go_simp
  have k1 : (w.alloc (.cells #[.int .i64 t.kind, .string ⟨t.text.toArray⟩, .int .i64 t.line, .int .i64 t.col] 198)).cell? ⟨w.heap.size, 1, none⟩ = some (.string ⟨t.text.toArray⟩) := by go_simp
  have k2 : (w.alloc (.cells #[.int .i64 t.kind, .string ⟨t.text.toArray⟩, .int .i64 t.line, .int .i64 t.col] 198)).cell? ⟨w.heap.size, 2, none⟩ = some (.int .i64 t.line) := by go_simp
  have k3 : (w.alloc (.cells #[.int .i64 t.kind, .string ⟨t.text.toArray⟩, .int .i64 t.line, .int .i64 t.col] 198)).cell? ⟨w.heap.size, 3, none⟩ = some (.int .i64 t.col) := by go_simp
  have hsz : (w.alloc (.cells #[.int .i64 t.kind, .string ⟨t.text.toArray⟩, .int .i64 t.line, .int .i64 t.col] 198)).heap.size = w.heap.size + 1 := by simp
  have hk1 : ((t.kind : Int) == 1) = false := by simp; omega
  have h8b : ((ts.length : Int) == 8) = true := by simp; omega
  clear hk h8
  unfold tokV
  go_enter Try.func181, Try.ntmps181
  go_wp2
  generalize w.alloc (.cells #[.int .i64 t.kind, .string ⟨t.text.toArray⟩, .int .i64 t.line, .int .i64 t.col] 198) = S at *
  have HF0 := Lib.hid ((gfind_any _ ⟨ts, ns, ls.map Lay.plain⟩ t.text S.drew (h'.gram.below (Below.refl _ _).drew) hns hts).mono fun e w' he => (⟨he.1.trans (by rw [hf]), he.2⟩ : e = Ending.returned (.tuple #[.int .i64 0, .bool false]) ∧ Below S.drew.heap.size S.drew w'))
  clear hf
  go_region_with (go_at_call 22; with_reducible refine HF0.out.mono ?_
                  rintro e w2 ⟨rfl, hb2⟩)
  all_goals
    have hb3 : Below S.heap.size S w2 := (Below.refl _ _).drew.trans hb2
    have h2 := h'.below hb3
    have hb4 : Below w.heap.size w w2 := hS.trans (hb3.mono hS.size)
    obtain ⟨d0, d1, d2⟩ := h2.cell
    have hlk : w.heap.size < S.heap.size := by omega
    have q0 := (hb3.cell (p := ⟨w.heap.size, 0, none⟩) hlk).trans k0
    have q1 := (hb3.cell (p := ⟨w.heap.size, 1, none⟩) hlk).trans k1
    have q2 := (hb3.cell (p := ⟨w.heap.size, 2, none⟩) hlk).trans k2
    have q3 := (hb3.cell (p := ⟨w.heap.size, 3, none⟩) hlk).trans k3
    have HZ := Lib.hid (show w.heap.size < w2.heap.size from Nat.lt_of_lt_of_le hlk hb3.size)
    have hlt2 : b < w2.heap.size := h2.lt
    clear hb2 hb3 b0 b1 b2 k0 k1 k2 k3 h' hS HF0 hsz hbw hlk
    go_wp2_with (go_at_call 169; refine (refuse_any t 5 _).mono ?_; rintro e w3 ⟨rfl, hb3⟩)
    exact ⟨rfl, rfl, hb4.trans (hb3.mono hb4.size)⟩

set_option maxHeartbeats 4000000 in
theorem symbol_new (t : Tok) (h : Bld b w ts ns ls at_ an ap ct cn cp) (hts : ts.length ≤ 1000000) (hns : ns.length ≤ 1000000) (hk : t.kind ≠ 1) (h8 : ts.length < 8) (hf : findG ⟨ts, ns, ls.map Lay.plain⟩ t.text = (0, false)) :
    Calls Try.prog 181 #[.pointer (some ⟨b, 0, none⟩), tokV t] w fun e w' => e = .returned (.int .i64 ((ts.length + 1 : Nat) : Int)) ∧ Below b w w' ∧ Stays [9, 196] w w' ∧ ∃ at' ct', Bld b w' (ts ++ [t.text]) ns ls at' an ap ct' cn cp := by
  have hS : Below w.heap.size w (w.alloc (.cells #[.int .i64 t.kind, .string ⟨t.text.toArray⟩, .int .i64 t.line, .int .i64 t.col] 198)) := (Below.refl _ _).alloc (Nat.le_refl _) _
  have h' := h.alloc (.cells #[.int .i64 t.kind, .string ⟨t.text.toArray⟩, .int .i64 t.line, .int .i64 t.col] 198)
  obtain ⟨b0, b1, b2⟩ := h'.cell
  have hbw := h'.lt
  have hblt := h.lt
  have k0 : (w.alloc (.cells #[.int .i64 t.kind, .string ⟨t.text.toArray⟩, .int .i64 t.line, .int .i64 t.col] 198)).cell? ⟨w.heap.size, 0, none⟩ = some (.int .i64 t.kind) := by go_simp
  have k1 : (w.alloc (.cells #[.int .i64 t.kind, .string ⟨t.text.toArray⟩, .int .i64 t.line, .int .i64 t.col] 198)).cell? ⟨w.heap.size, 1, none⟩ = some (.string ⟨t.text.toArray⟩) := by go_simp
  have k2 : (w.alloc (.cells #[.int .i64 t.kind, .string ⟨t.text.toArray⟩, .int .i64 t.line, .int .i64 t.col] 198)).cell? ⟨w.heap.size, 2, none⟩ = some (.int .i64 t.line) := by go_simp
  have k3 : (w.alloc (.cells #[.int .i64 t.kind, .string ⟨t.text.toArray⟩, .int .i64 t.line, .int .i64 t.col] 198)).cell? ⟨w.heap.size, 3, none⟩ = some (.int .i64 t.col) := by go_simp
  have hsz : (w.alloc (.cells #[.int .i64 t.kind, .string ⟨t.text.toArray⟩, .int .i64 t.line, .int .i64 t.col] 198)).heap.size = w.heap.size + 1 := by simp
  obtain ⟨i0, hi0, hz0, hz1, hz2⟩ := info_of infoS
  have hk1 : ((t.kind : Int) == 1) = false := by simp; omega
  have h8b : ((ts.length : Int) == 8) = false := by simp; omega
  clear hk
  unfold tokV
  go_enter Try.func181, Try.ntmps181
  go_wp2
  generalize w.alloc (.cells #[.int .i64 t.kind, .string ⟨t.text.toArray⟩, .int .i64 t.line, .int .i64 t.col] 198) = S at *
  have HF0 := Lib.hid ((gfind_any _ ⟨ts, ns, ls.map Lay.plain⟩ t.text S.drew (h'.gram.below (Below.refl _ _).drew) hns hts).mono fun e w' he => (⟨he.1.trans (by rw [hf]), he.2⟩ : e = Ending.returned (.tuple #[.int .i64 0, .bool false]) ∧ Below S.drew.heap.size S.drew w'))
  clear hf
  go_region_with (go_at_call 22; with_reducible refine HF0.out.mono ?_
                  rintro e w2 ⟨rfl, hb2⟩)
  all_goals
    have hb3 : Below S.heap.size S w2 := (Below.refl _ _).drew.trans hb2
    have h2 := h'.below hb3
    have hb4 : Below w.heap.size w w2 := hS.trans (hb3.mono hS.size)
    obtain ⟨d0, d1, d2⟩ := h2.cell
    have hlk : w.heap.size < S.heap.size := by omega
    have q0 := (hb3.cell (p := ⟨w.heap.size, 0, none⟩) hlk).trans k0
    have q1 := (hb3.cell (p := ⟨w.heap.size, 1, none⟩) hlk).trans k1
    have q2 := (hb3.cell (p := ⟨w.heap.size, 2, none⟩) hlk).trans k2
    have q3 := (hb3.cell (p := ⟨w.heap.size, 3, none⟩) hlk).trans k3
    have HZ := Lib.hid (show w.heap.size < w2.heap.size from Nat.lt_of_lt_of_le hlk hb3.size)
    have hlt2 : b < w2.heap.size := h2.lt
    clear hb2 hb3 b0 b1 b2 k0 k1 k2 k3 h' hS HF0 hsz hbw hlk
    go_wp2
    go_region_law (first
      | (refine step_append_lies _ (by rfl) _ _ _ (by rfl) (b + 1) 9 i0 _ 1 16 Try.underlying25 hi0 hz0 hz1 hz2 rfl (by omega) _ ts.length (strs ts) (by rfl) (h2.t.drew.alloc _) ⟨w2.heap.size, 0, none⟩ 1 1 [.string ⟨t.text.toArray⟩] (by rfl) (by rfl) (World.news_of_block (cs := #[.string ⟨t.text.toArray⟩]) (t := 9) (fr := (0, 0)) (heap_alloc_new w2.drew _)) (by simp [Value.oneCell']) (by omega) (by unfold maxLen; omega) (by omega) (by simp; omega) (w2.heap.size + 1) (by simp) ?_
         intro g cap w3 hown3 hgrow3 hat3 hlt3
         have f3 := blk_cell (w := w3) (i := 0) (u := .slice at_ ts.length ct) ((hgrow3.block b (by simp; omega) (by intro e; have := (own_block h2.t e.symm).1; omega)).trans ((Below.heap_alloc w2.drew _ b h2.lt).trans h2.blk)) (by rfl)
         obtain ⟨f3, z3⟩ := f3))
    all_goals
      have hp := ((h2.alloc (.cells #[.string ⟨t.text.toArray⟩] 9)).below ((Below.refl _ _).drew)).put_t (w1 := w3) hown3 hgrow3 (by rcases hat3 with h | h; exact .inl h; exact .inr (by simp; omega))
      have hB := hb4.mono (Nat.le_of_lt hblt)
      have hB1 := (hB.alloc (by omega) (.cells #[.string ⟨t.text.toArray⟩] 9)).drew
      have hB2 := (hB1.grown hgrow3 (by simp; omega) (fun k hk => by have := (own_block h2.t hk).1; omega)).setCell (p := ⟨b, 0, none⟩) (Nat.le_refl _) (.slice (some ⟨g, 0, none⟩) (ts.length + 1) cap)
      have hSt : Stays [9, 196] w (w3.setCell ⟨b, 0, none⟩ (.slice (some ⟨g, 0, none⟩) (ts.length + 1) cap)) :=
        (((Stays.of_below _ hb4).trans (Stays.of_below _ ((Below.refl _ _).drew.alloc (Nat.le_refl _) (.cells #[.string ⟨t.text.toArray⟩] 9)))).trans (Stays.grown (h2.t.drew.alloc _) (by simp) hgrow3)).trans
          (Stays.set ((hgrow3.block b (by simp; omega) (by intro e; have := (own_block h2.t e.symm).1; omega)).trans ((Below.heap_alloc w2.drew _ b h2.lt).trans h2.blk)) (by simp))
      have x0 := hp.cell.1
      have HP := Lib.hid hp
      have HSt := Lib.hid hSt
      clear hp hSt hB hB1 hown3 hgrow3 hat3
      go_wp2
      go_ret
      exact ⟨ret_int (by push_cast; rfl), hB2, HSt.out, _, _, HP.out⟩

end

end Go.Proofs.Ytjlohjkhnjemaaa

namespace Go.Proofs.Ytjlohjkhnjemaaa
open Go.RowKit
open Doc

section
variable {b : Nat} {w : World} {ts ns : List (List UInt8)} {ls : List Lay} {at_ an ap : Option Addr} {ct cn cp : Nat}

/-- The builder, its rows wherever they are: what stays true besides. -/
structure Names (ts ns : List (List UInt8)) : Prop where
  tk : ∀ x ∈ ts, kindOf x = 2
  nk : ∀ x ∈ ns, kindOf x = 1
  tl : ts.length ≤ 8
  nl : ns.length ≤ 8

theorem symbol_bad (t : Tok) (e : Nat) (h : Bld b w ts ns ls at_ an ap ct cn cp) (hN : Names ts ns) (ht : isName t) (hf : FairT t) (hs : symF ns ts t = .inr e) :
    Calls Try.prog 181 #[.pointer (some ⟨b, 0, none⟩), tokV t] w fun x w' => x = .panicked [{ v := faultV t.line t.col e, recovered := false }] ∧ Below w.heap.size w w' := by
  have hts := hN.tl
  have hns := hN.nl
  have hx := find_sym ns ts (ls.map Lay.plain) t ht hf hN.tk hN.nk
  rw [hs] at hx
  obtain ⟨hx, ⟨hk, rfl⟩ | ⟨hk, h8, rfl⟩⟩ := hx
  · exact symbol_none t h (by omega) (by omega) hk hx
  · exact symbol_limit t h (by omega) (by omega) hk (by omega) hx

theorem symbol_ok (t : Tok) (ts' : List (List UInt8)) (s : Int) (h : Bld b w ts ns ls at_ an ap ct cn cp) (hN : Names ts ns) (ht : isName t) (hf : FairT t) (hs : symF ns ts t = .inl (ts', s)) :
    Calls Try.prog 181 #[.pointer (some ⟨b, 0, none⟩), tokV t] w fun x w' => x = .returned (.int .i64 s) ∧ Below b w w' ∧ Stays [9, 196] w w' ∧ Names ts' ns ∧ ∃ at' ct', Bld b w' ts' ns ls at' an ap ct' cn cp := by
  have hts := hN.tl
  have hns := hN.nl
  have hx := find_sym ns ts (ls.map Lay.plain) t ht hf hN.tk hN.nk
  have hN' := sym_terms hs ht hf hN.tk hN.tl
  have hN2 : Names ts' ns := ⟨hN'.1, hN.nk, hN'.2, hN.nl⟩
  rw [hs] at hx
  rcases hx with ⟨hx, rfl⟩ | ⟨hx, hk, h8, rfl, rfl⟩
  · refine (symbol_found t s h (by omega) (by omega) hx).mono fun e w' ⟨he, hb⟩ => ?_
    exact ⟨he, hb.mono (Nat.le_of_lt h.lt), Stays.of_below _ hb, hN2, _, _, h.below hb⟩
  · refine (symbol_new t h (by omega) (by omega) hk h8 hx).mono fun e w' ⟨he, hb, hS, at', ct', hB⟩ => ?_
    exact ⟨he, hb, hS, hN2, at', ct', hB⟩
end

end Go.Proofs.Ytjlohjkhnjemaaa

namespace Go.Proofs.Ytjlohjkhnjemaaa
open Go.RowKit
open Doc

/-- The cells xs lie at a, whatever is made or written from block b on. -/
def Under (b : Nat) (w : World) (a : Option Addr) (xs : List Value) : Prop := ∀ W, Below b w W → Cells W a xs
theorem Under.trans {b : Nat} {w w' : World} {a : Option Addr} {xs : List Value} (h : Under b w a xs) (hb : Below b w w') : Under b w' a xs := fun W hW => h W (hb.trans hW)

section
variable {b : Nat} {w : World} {ts ns : List (List UInt8)} {ls : List Lay} {at_ an ap : Option Addr} {ct cn cp : Nat}

theorem own_base {w : World} {B B' e size n : Nat} {v : Value} {xs : List Value} (h : w.ownsRow B e size v n xs) (hB : B' ≤ B) : w.ownsRow B' e size v n xs := by
  refine ⟨h.1, ?_⟩
  rcases h.2 with h0 | ⟨g, cap, cur, hv, hg, rest⟩
  · exact .inl h0
  · exact .inr ⟨g, cap, cur, hv, Nat.le_trans hB hg, rest⟩

theorem any_mem (ls : List Lay) (x : Int × List Int) : (ls.any fun q => decide (x = q.plain)) = true ↔ x ∈ ls.map Lay.plain := by
  rw [List.any_eq_true, List.mem_map]
  constructor
  · rintro ⟨q, hq, h⟩; exact ⟨q, hq, (of_decide_eq_true h).symm⟩
  · rintro ⟨q, hq, h⟩; exact ⟨q, hq, decide_eq_true h.symm⟩

/-- The builder stands while the part's own row grows. -/
theorem bld_row {B7 : Nat} {w2 w4 : World} {ra : Option Addr} {r : List Int} {rc : Nat} {o : Obj} {left : Int} {v : Value} (h : Bld b w2 ts ns ls at_ an ap ct cn cp) (q : w2.heap[B7 + 1]? = some (.cells #[.int .i64 left, .slice ra r.length rc] 91)) (hown : w2.ownsRow (B7 + 1 + 1) 3 1 (.slice ra r.length rc) r.length (nums r))
    (hg : (w2.alloc o).grownBy w4 (Value.slice ra r.length rc).ownBlock) (hbw : b < B7) (hap : ∀ k, (Value.slice ap ls.length cp).ownBlock = some k → k < B7) (hr : ∀ q ∈ ls, ∀ k, (Value.slice q.addr q.right.length q.cap).ownBlock = some k → k < B7) :
    Bld b (w4.setCell ⟨B7 + 1, 1, none⟩ v) ts ns ls at_ an ap ct cn cp := by
  have hlow : ∀ k, k < B7 → k < w2.heap.size → (w4.setCell ⟨B7 + 1, 1, none⟩ v).heap[k]? = w2.heap[k]? := fun k hk hl => by
    rw [Below.heap_setCell _ _ _ _ (show k ≠ B7 + 1 by omega), hg.block k (by simp; omega) (fun e => by have := (own_block hown e.symm).1; omega), Below.heap_alloc _ _ _ hl]
  have hoth : ∀ {e size n : Nat} {u : Value} {xs : List Value}, w2.ownsRow (b + 1) e size u n xs → e ≠ 91 → e ≠ 3 → ∀ k, u.ownBlock = some k → (w4.setCell ⟨B7 + 1, 1, none⟩ v).heap[k]? = w2.heap[k]? := by
    intro e size n u xs ho h1 h2 k hk
    obtain ⟨_, hl, cur, hc⟩ := own_block ho hk
    have hne : k ≠ B7 + 1 := by
      rintro rfl
      rw [q] at hc
      cases hc
      exact h1 rfl
    rw [Below.heap_setCell _ _ _ _ hne, hg.block k (by simp; omega) (fun e' => own_apart hown ho (Ne.symm h2) e'.symm hk), Below.heap_alloc _ _ _ hl]
  exact h.same (hlow b hbw h.lt) (hoth h.t (by decide) (by decide)) (hoth h.n (by decide) (by decide)) (fun k hk => hlow k (hap k hk) (own_block h.p hk).2.1) (fun q' hq' k hk => hlow k (hr q' hq' k hk) (own_block (h.r q' hq') hk).2.1)

/-- How addProd ends. -/
def ProdEnd (b : Nat) (ts ns : List (List UInt8)) (ls : List Lay) (an : Option Addr) (cn : Nat) (left : Int) (names : List Tok) (p : Tok) (e : Ending) (w' : World) : Prop :=
  match prodF ns left names p ts (ls.map Lay.plain) with
  | .inr x => e = .panicked [{ v := faultV x.1 x.2.1 x.2.2, recovered := false }]
  | .inl (ts', ps') => e = .returned (.tuple #[]) ∧ Names ts' ns ∧ ∃ (at' ap' : Option Addr) (ct' cp' : Nat) (ls' : List Lay), Bld b w' ts' ns ls' at' an ap' ct' cn cp' ∧ ls'.map Lay.plain = ps'

set_option maxRecDepth 100000 in
set_option maxHeartbeats 8000000 in
theorem addProd_any (left : Int) (a : Option Addr) (cap : Nat) (names : List Tok) (p : Tok) (h : Bld b w ts ns ls at_ an ap ct cn cp) (hN : Names ts ns) (hnm : ∀ t ∈ names, isName t ∧ FairT t) (hu : Under b w a (tall names)) (hl : names.length ≤ 4000000) (hls : ls.length ≤ 24) :
    Calls Try.prog 170 #[.pointer (some ⟨b, 0, none⟩), .int .i64 left, .slice a names.length cap, tokV p] w fun e w' => Below b w w' ∧ ProdEnd b ts ns ls an cn left names p e w' := by
  obtain ⟨i0, hi0, hz0, hz1, hz2⟩ := info_of infoI
  obtain ⟨i1, hi1, hy0, hy1, hy2⟩ := info_of infoP
  obtain ⟨pk, pt, pln, pc⟩ := p
  unfold tokV
  simp only
  go_enter Try.func170, Try.ntmps170
  go_wp2
  have hS : Below w.heap.size w ((w.alloc (.cells #[.int .i64 pk, .string ⟨pt.toArray⟩, .int .i64 pln, .int .i64 pc] 198)).alloc (.cells #[.int .i64 left, .slice none 0 0] 91)) := ((Below.refl _ _).alloc (Nat.le_refl _) _).alloc (by simp) _
  have s7 : ((w.alloc (.cells #[.int .i64 pk, .string ⟨pt.toArray⟩, .int .i64 pln, .int .i64 pc] 198)).alloc (.cells #[.int .i64 left, .slice none 0 0] 91)).heap[w.heap.size]? = some (.cells #[.int .i64 pk, .string ⟨pt.toArray⟩, .int .i64 pln, .int .i64 pc] 198) := by
    rw [Below.heap_alloc _ _ _ (by simp)]; exact heap_alloc_new w _
  have s8 : ((w.alloc (.cells #[.int .i64 pk, .string ⟨pt.toArray⟩, .int .i64 pln, .int .i64 pc] 198)).alloc (.cells #[.int .i64 left, .slice none 0 0] 91)).heap[w.heap.size + 1]? = some (.cells #[.int .i64 left, .slice none 0 0] 91) := by
    have := heap_alloc_new (w.alloc (.cells #[.int .i64 pk, .string ⟨pt.toArray⟩, .int .i64 pln, .int .i64 pc] 198)) (.cells #[.int .i64 left, .slice none 0 0] 91)
    simpa using this
  have hbw := h.lt
  have hS' := h.below hS
  have hapb : ∀ k, (Value.slice ap ls.length cp).ownBlock = some k → k < w.heap.size := fun k hk => (own_block h.p hk).2.1
  have hrb : ∀ q ∈ ls, ∀ k, (Value.slice q.addr q.right.length q.cap).ownBlock = some k → k < w.heap.size := fun q hq k hk => (own_block (h.r q hq) hk).2.1
  have HU := Lib.hid hu
  have HN := Lib.hid hN
  have HNM := Lib.hid hnm
  have HAPB := Lib.hid hapb
  have HRB := Lib.hid hrb
  clear hu hN hnm hapb hrb
  have HS0 := Lib.hid hS
  clear hS
  generalize (w.alloc (.cells #[.int .i64 pk, .string ⟨pt.toArray⟩, .int .i64 pln, .int .i64 pc] 198)).alloc (.cells #[.int .i64 left, .slice none 0 0] 91) = S at *
  generalize hB7 : w.heap.size = B7 at *
  go_loopw [15] (fun i wr => ∃ (k : Nat) (ts' : List (List UInt8)) (at' : Option Addr) (ct' : Nat) (ra : Option Addr) (r : List Int) (rc : Nat), k ≤ names.length ∧ i = .int .i64 k ∧ r.length ≤ 6 ∧ Bld b wr ts' ns ls at' an ap ct' cn cp ∧ Names ts' ns ∧
      wr.heap[B7]? = some (.cells #[.int .i64 pk, .string ⟨pt.toArray⟩, .int .i64 pln, .int .i64 pc] 198) ∧ wr.heap[B7 + 1]? = some (.cells #[.int .i64 left, .slice ra r.length rc] 91) ∧ wr.ownsRow (B7 + 1 + 1) 3 1 (.slice ra r.length rc) r.length (nums r) ∧
      Below b w wr ∧ Hid (rowF ns names ts [] = rowF ns (names.drop k) ts' r)) (fun i _ => names.length - (intOf i).toNat)
  case atStart => exact ⟨0, ts, at_, ct, none, [], 0, Nat.zero_le _, rfl, by simp, hS', HN.out, s7, s8, World.ownsRow_nil _ _ _ _, HS0.out.mono (by omega), Lib.hid (by simp)⟩
  case round =>
    obtain ⟨k, ts', at', ct', ra, r, rc, hk, rfl, hr6, hbl, hnn, q7, q8, hown, hbe, HR⟩ := hrel
    clear s7 s8 hS'
    have c7 := (blk_cell (i := 0) q7 rfl).1
    have c8 := (blk_cell (i := 1) q8 rfl).1
    have l8 := heap_lt q8
    by_cases hlt : k < names.length
    · obtain ⟨t, ht⟩ : ∃ t, names[k]? = some t := ⟨_, List.getElem?_eq_getElem hlt⟩
      have hd : rowF ns (names.drop k) ts' r = if 6 ≤ r.length then .inr (t.line, t.col, 5) else match symF ns ts' t with
          | .inr e => .inr (t.line, t.col, e)
          | .inl (ts2, s) => rowF ns (names.drop (k + 1)) ts2 (r ++ [s]) := by
        rw [List.drop_eq_getElem_cons hlt]
        have : names[k] = t := by rw [List.getElem?_eq_getElem hlt] at ht; exact Option.some.inj ht
        rw [this]; rfl
      have hnt := HNM.out t (List.mem_of_getElem? ht)
      obtain ⟨bb, off, rfl, hbbl, hc⟩ := (HU.out wr hbe).get (tall_nil_iff (by omega))
      obtain ⟨c0, c1, c2, c3⟩ := tok_cells hc ht
      have e1 : (k : Int) < names.length := by omega
      have HD := Lib.hid (HR.out.trans hd)
      obtain ⟨tk, tt, tln, tc⟩ := t
      simp only at c0 c1 c2 c3
      clear hc hd ht HR
      by_cases h6 : r.length = 6
      · have h6b : ((r.length : Int) == 6) = true := by simp; omega
        have HB := Lib.hid (hbe.alloc (Nat.le_of_lt hbl.lt))
        have HR6 := Lib.hid (show 6 ≤ r.length by omega)
        clear h6 hr6
        go_wp2_with (go_at_call 169; refine (refuse_any ⟨tk, tt, tln, tc⟩ 5 _).mono ?_; rintro e w2 ⟨rfl, hb2⟩)
        refine ⟨rfl, (HB.out _).trans (hb2.mono (by have := hbl.lt; simp; omega)), ?_⟩
        unfold ProdEnd prodF
        rw [HD.out, if_pos HR6.out]
      · have h6b : ((r.length : Int) == 6) = false := by simp; omega
        have HH6 := Lib.hid h6
        have HTT := Lib.hid hnt
        clear h6 hnt
        go_wp2
        have hb3 : Below b w (wr.alloc (.cells #[.int .i64 tk, .string ⟨tt.toArray⟩, .int .i64 tln, .int .i64 tc] 198)) := hbe.alloc (Nat.le_of_lt hbl.lt) _
        have hk3 : Below wr.heap.size wr (wr.alloc (.cells #[.int .i64 tk, .string ⟨tt.toArray⟩, .int .i64 tln, .int .i64 tc] 198)) := (Below.refl _ _).alloc (Nat.le_refl _) _
        have hbl3 := hbl.below hk3
        have q73 := (hk3.block _ (heap_lt q7)).trans q7
        have q83 := (hk3.block _ (heap_lt q8)).trans q8
        have hown3 := own_same hown (fun g _ hg => hk3.block g hg)
        have t3 := heap_alloc_new wr (.cells #[.int .i64 tk, .string ⟨tt.toArray⟩, .int .i64 tln, .int .i64 tc] 198)
        have t30 := (blk_cell (i := 0) t3 rfl).1
        have t31 := (blk_cell (i := 1) t3 rfl).1
        have t32 := (blk_cell (i := 2) t3 rfl).1
        have t33 := (blk_cell (i := 3) t3 rfl).1
        have c83 := (blk_cell (i := 1) q83 rfl).1
        have hz3 : wr.heap.size < (wr.alloc (.cells #[.int .i64 tk, .string ⟨tt.toArray⟩, .int .i64 tln, .int .i64 tc] 198)).heap.size := by simp
        have l83 := heap_lt q83
        clear c0 c1 c2 c3 c7 c8 hk3 hbl q7 q8 hown t3 hbe l8 hbbl
        generalize wr.alloc (.cells #[.int .i64 tk, .string ⟨tt.toArray⟩, .int .i64 tln, .int .i64 tc] 198) = w1 at *
        generalize wr.heap.size = B10 at *
        cases hs : symF ns ts' ⟨tk, tt, tln, tc⟩ with
        | inr x =>
          have hsy := symbol_bad (w := w1.drew) ⟨tk, tt, tln, tc⟩ x (hbl3.below (Below.refl _ _).drew) hnn HTT.out.1 HTT.out.2 hs
          unfold tokV at hsy
          simp only at hsy
          have HSY := Lib.hid hsy
          have HX := Lib.hid hs
          clear hs hsy
          go_region_dies
          all_goals
            go_at_call 181
            with_reducible refine HSY.out.mono ?_
            rintro e w2 ⟨rfl, hb2⟩
            exact ⟨rfl, (hb3.drew).trans (hb2.mono (Nat.le_of_lt (heap_lt hbl3.blk))), by unfold ProdEnd prodF; rw [HD.out, if_neg (by have := HH6.out; omega), HX.out]⟩
        | inl x =>
          obtain ⟨ts2, sx⟩ := x
          have hsy := symbol_ok (w := w1.drew) ⟨tk, tt, tln, tc⟩ ts2 sx (hbl3.below (Below.refl _ _).drew) hnn HTT.out.1 HTT.out.2 hs
          unfold tokV at hsy
          simp only at hsy
          have HSY := Lib.hid hsy
          have HR2 : Hid (rowF ns names ts [] = rowF ns (names.drop (k + 1)) ts2 (r ++ [sx])) := Lib.hid (by rw [HD.out, if_neg (by have := HH6.out; omega), hs])
          clear hs hsy HD
          go_region_law (first
            | (go_simp
               go_at_call 181
               with_reducible refine HSY.out.mono ?_
               rintro e w2 ⟨rfl, hb2, hst2, hn2, at2, ct2, hbl2⟩
               have q72 := hst2 _ _ _ _ q73 (by decide)
               have q82 := hst2 _ _ _ _ q83 (by decide)
               have hown2 := own_same (w' := w2) hown3 (fun g hg _ => by
                 obtain ⟨_, _, cur, hc⟩ := own_block hown3 hg
                 rw [hst2 _ _ _ _ hc (by decide), hc])
               have c82 := (blk_cell (i := 1) q82 rfl).1
               have l82 := heap_lt q82)
            | (refine step_append_lies _ (by rfl) _ _ _ (by rfl) (B7 + 1 + 1) 3 i0 _ 1 8 Try.underlying45 hi0 hz0 hz1 hz2 rfl (by omega) _ r.length (nums r) (by rfl) (hown2.alloc _) ⟨w2.heap.size, 0, none⟩ 1 1 [.int .i64 sx] (by rfl) (by rfl) (World.news_of_block (cs := #[.int .i64 sx]) (t := 3) (fr := (0, 0)) (heap_alloc_new w2 _)) (by simp [Value.oneCell']) (by omega) (by unfold maxLen; omega) (by omega) (by simp; omega) (w2.heap.size + 1) (by simp) ?_
               intro g cap4 w4 hown4 hgrow4 hat4 hlt4
               have q84 := (hgrow4.block (B7 + 1) (by simp; omega) (by intro e; have := (own_block hown2 e.symm).1; omega)).trans ((Below.heap_alloc w2 _ (B7 + 1) l82).trans q82)
               obtain ⟨c84, z84⟩ := blk_cell (i := 1) q84 rfl))
          all_goals
            have hbF := bld_row (v := .slice (some ⟨g, 0, none⟩) (r.length + 1) cap4) hbl2 q82 hown2 hgrow4 hbw HAPB.out HRB.out
            have hset : ∀ k, k ≠ B7 + 1 → (w4.setCell ⟨B7 + 1, 1, none⟩ (.slice (some ⟨g, 0, none⟩) (r.length + 1) cap4)).heap[k]? = w4.heap[k]? := fun k hk => Below.heap_setCell _ _ _ _ hk
            have q7F := (hset B7 (by omega)).trans ((hgrow4.block B7 (by simp; omega) (by intro e; have := (own_block hown2 e.symm).1; omega)).trans ((Below.heap_alloc w2 _ B7 (by omega)).trans q72))
            have q8F := heap_set w4 (B7 + 1) 1 (.slice (some ⟨g, 0, none⟩) (r.length + 1) cap4) _ _ q84 (by simp)
            have hownF := own_same (w' := w4.setCell ⟨B7 + 1, 1, none⟩ (.slice (some ⟨g, 0, none⟩) (r.length + 1) cap4)) hown4 (fun k hk _ => hset k (by have := (own_block hown4 hk).1; omega))
            have hbeF : Below b w (w4.setCell ⟨B7 + 1, 1, none⟩ (.slice (some ⟨g, 0, none⟩) (r.length + 1) cap4)) :=
              ((((hb3.drew).trans hb2).alloc (Nat.le_of_lt hbl2.lt) _).grown hgrow4 (by have := hbl2.lt; simp; omega) (fun k hk => by have := (own_block hown2 hk).1; omega)).setCell (by show b ≤ B7 + 1; omega) _
            have HBF := Lib.hid hbF
            have HQ7 := Lib.hid q7F
            have HQ8 := Lib.hid q8F
            have HOF := Lib.hid hownF
            have HEF := Lib.hid hbeF
            clear hbF q7F q8F hownF hbeF hset hown4 hgrow4 hat4 q84 c84 z84 hbl2 hst2 hb2 hown2 q72 q82 c82
            go_wp2
            go_roundw
            case rel => exact ⟨k + 1, ts2, at2, ct2, some ⟨g, 0, none⟩, r ++ [sx], cap4, by omega, by go_num, by have := HH6.out; simp; omega, HBF.out, hn2, HQ7.out, by simpa using HQ8.out, by simpa [nums] using HOF.out, HEF.out, HR2⟩
            case measure => simp [intOf]; omega
    · have hd : rowF ns (names.drop k) ts' r = .inl (ts', r) := by rw [List.drop_of_length_le (by omega)]; rfl
      have HD := Lib.hid (HR.out.trans hd)
      have e1 : ¬ (k : Int) < names.length := by omega
      have hlen : (ls.map Lay.plain).length = ls.length := List.length_map _
      obtain ⟨d0, d1, d2⟩ := hbl.cell
      have d3 := (blk_cell (i := 1) q7 rfl).1
      have d4 := (blk_cell (i := 2) q7 rfl).1
      have d5 := (blk_cell (i := 3) q7 rfl).1
      have d6 := (blk_cell (i := 0) q8 rfl).1
      clear hd HR
      by_cases h24 : ls.length = 24
      · have h24b : ((ls.length : Int) == 24) = true := by simp; omega
        have H24 := Lib.hid h24
        clear h24 hls
        go_wp2_with (go_at_call 169; refine (refuse_any ⟨pk, pt, pln, pc⟩ 5 _).mono ?_; rintro e w2 ⟨rfl, hb2⟩)
        refine ⟨rfl, hbe.trans (hb2.mono (Nat.le_of_lt hbl.lt)), ?_⟩
        unfold ProdEnd prodF
        rw [HD.out]
        simp only []
        rw [if_pos (by have := H24.out; omega)]
      · have h24b : ((ls.length : Int) == 24) = false := by simp; omega
        have H24 := Lib.hid h24
        clear h24
        have hbl3 := hbl.below (Below.refl wr.heap.size wr).drew
        have hst := stands_any ap cp ls ⟨left, r, ra, rc⟩ wr.drew (own_cells hbl3.p).1 (by omega) (own_cells (own_same (w' := wr.drew) hown (fun g _ _ => rfl))).1 (by show r.length ≤ _; omega)
          (fun q hq => ⟨(own_cells (hbl3.r q hq)).1, by have := hbl3.r6 q hq; omega⟩)
        unfold prodV at hst
        simp only at hst
        cases hm : ls.any (fun q => decide ((Lay.mk left r ra rc).plain = q.plain)) with
        | true =>
          rw [hm] at hst
          have HM := Lib.hid ((any_mem ls (left, r)).1 hm)
          have HST := Lib.hid hst
          clear hst hm
          go_wp2
          go_region_with (go_at_call 117; with_reducible refine HST.out.mono ?_
                          rintro e w2 ⟨rfl, hb2⟩
                          have d22 := (hb2.cell (p := ⟨B7, 0, none⟩) (heap_lt q7)).trans (blk_cell (i := 0) q7 rfl).1
                          have d32 := (hb2.cell (p := ⟨B7, 1, none⟩) (heap_lt q7)).trans d3
                          have d42 := (hb2.cell (p := ⟨B7, 2, none⟩) (heap_lt q7)).trans d4
                          have d52 := (hb2.cell (p := ⟨B7, 3, none⟩) (heap_lt q7)).trans d5)
          all_goals
            go_wp2_with (go_at_call 169; refine (refuse_any ⟨pk, pt, pln, pc⟩ 4 _).mono ?_; rintro e w3 ⟨rfl, hb3⟩)
            refine ⟨rfl, (hbe.drew.trans (hb2.mono (Nat.le_of_lt hbl.lt))).trans (hb3.mono (Nat.le_trans (Nat.le_of_lt hbl.lt) hb2.size)), ?_⟩
            unfold ProdEnd prodF
            rw [HD.out]
            simp only []
            rw [if_neg (by have := H24.out; omega), if_pos HM.out]
        | false =>
          rw [hm] at hst
          have HM := Lib.hid (show ¬ (left, r) ∈ ls.map Lay.plain from fun h => by have := (any_mem ls (left, r)).2 h; rw [show (left, r) = (Lay.mk left r ra rc).plain from rfl, hm] at this; cases this)
          have HST := Lib.hid hst
          clear hst hm
          go_wp2
          go_region_with (go_at_call 117; with_reducible refine HST.out.mono ?_
                          rintro e w2 ⟨rfl, hb2⟩)
          all_goals
            have hb3 : Below wr.heap.size wr w2 := (Below.refl _ _).drew.trans hb2
            have hbl2 := hbl.below hb3
            have q82 := (hb3.block _ l8).trans q8
            have hown2 := own_same hown (fun g _ hg => hb3.block g hg)
            obtain ⟨v0, v1, v2⟩ := hbl2.cell
            have v3 := (blk_cell (i := 0) q82 rfl).1
            have v4 := (blk_cell (i := 1) q82 rfl).1
            have hbe2 := hbe.trans (hb3.mono (Nat.le_of_lt hbl.lt))
            have hlt2 := hbl2.lt
            have l82 := heap_lt q82
            clear hbl hbl3 hown q7 q8 hbe c7 c8 l8 d0 d1 d2 d3 d4 d5 d6 HST hb2 hb3
            go_wp2
            go_region_law (first
              | (refine step_append_lies _ (by rfl) _ _ _ (by rfl) (b + 1) 91 i1 _ 2 32 Try.underlying26 hi1 hy0 hy1 hy2 rfl (by omega) _ ls.length (lays ls) (by rfl) (hbl2.p.drew.alloc _) ⟨w2.heap.size, 0, none⟩ 1 1 [.int .i64 left, .slice ra r.length rc] (by rfl) (by rfl) (World.news_of_block (cs := #[.int .i64 left, .slice ra r.length rc]) (t := 91) (fr := (0, 0)) (heap_alloc_new w2.drew _)) (by simp [Value.oneCell']) (by omega) (by unfold maxLen; omega) (by omega) (by simp; omega) (w2.heap.size + 1) (by simp) ?_
                 intro g cap4 w4 hown4 hgrow4 hat4 hlt4
                 obtain ⟨c84, z84⟩ := blk_cell (i := 2) ((hgrow4.block b (by simp; omega) (by intro e; have := (own_block hbl2.p e.symm).1; omega)).trans ((Below.heap_alloc w2.drew _ b hlt2).trans hbl2.blk)) rfl))
            all_goals
              have hp := ((hbl2.alloc (.cells #[.int .i64 left, .slice ra r.length rc] 91)).below (Below.refl _ _).drew).put_p (q := ⟨left, r, ra, rc⟩) (w1 := w4) hown4 hgrow4
                (own_base (own_same hown2 (fun k _ hk => Below.heap_alloc w2 _ k hk)) (by omega)) hr6
              have hB := ((hbe2.alloc (Nat.le_of_lt hlt2) (.cells #[.int .i64 left, .slice ra r.length rc] 91)).drew.grown hgrow4 (by simp; omega) (fun k hk => by have := (own_block hbl2.p hk).1; omega)).setCell (p := ⟨b, 2, none⟩) (Nat.le_refl _) (.slice (some ⟨g, 0, none⟩) (ls.length + 1) cap4)
              go_end0
              refine ⟨hB, ?_⟩
              unfold ProdEnd prodF
              rw [HD.out]
              simp only []
              rw [if_neg (by have := H24.out; omega), if_neg HM.out]
              exact ⟨trivial, hnn, _, _, _, _, _, hp, by simp [Lay.plain]⟩
end

end Go.Proofs.Ytjlohjkhnjemaaa

namespace Go.Proofs.Ytjlohjkhnjemaaa
open Go.RowKit
open Doc

theorem prod_len {nons : List (List UInt8)} {left : Int} {names : List Tok} {p : Tok} {ts : List (List UInt8)} {ps : List (Int × List Int)} {x : List (List UInt8) × List (Int × List Int)} (h : prodF nons left names p ts ps = .inl x) : x.2.length ≤ 24 := by
  unfold prodF at h
  cases hr : rowF nons names ts [] with
  | inr e => rw [hr] at h; cases h
  | inl y =>
    rw [hr] at h
    simp only at h
    split at h
    · cases h
    · split at h
      · cases h
      · cases h; simp; omega

theorem parts_head (nons : List (List UInt8)) (left : Int) (l : List Tok) (ts : List (List UInt8)) (ps : List (Int × List Int)) (r : List Int) (x y : Tok) : partsF nons left l ts ps r (l.headD x) = partsF nons left l ts ps r (l.headD y) := by
  cases l <;> rfl

theorem tall_take (l : List Tok) (k : Nat) : tall (l.take k) = (tall l).take (k * 4) := by
  induction l generalizing k with
  | nil => simp [tall]
  | cons t l ih =>
    cases k with
    | zero => simp [tall]
    | succ k =>
      rw [List.take_succ_cons, tall_cons, tall_cons, ih, show (k + 1) * 4 = (tcells t).length + k * 4 by simp [tcells]; omega, List.take_length_add_append]
theorem tall_drop (l : List Tok) (k : Nat) : tall (l.drop k) = (tall l).drop (k * 4) := by
  induction l generalizing k with
  | nil => simp [tall]
  | cons t l ih =>
    cases k with
    | zero => simp
    | succ k =>
      rw [List.drop_succ_cons, tall_cons, ih, show (k + 1) * 4 = (tcells t).length + k * 4 by simp [tcells]; omega, ← List.drop_drop, List.drop_left]

/-- A part of what lies there. -/
theorem Cells.sub {w : World} {b off : Nat} {l : List Tok} (h : Cells w (some ⟨b, off, none⟩) (tall l)) (s k : Nat) : Cells w (some ⟨b, off + s * 4, none⟩) (tall ((l.drop s).take k)) := by
  rcases Nat.eq_zero_or_pos l.length with h0 | h0
  · left
    have : l = [] := List.eq_nil_of_length_eq_zero h0
    subst this
    simp [tall]
  · obtain ⟨b', off', he, hlt, hc⟩ := h.get (tall_nil_iff h0)
    cases he
    refine .inr ⟨_, _, rfl, hlt, fun j u hj => ?_⟩
    rw [tall_take, tall_drop] at hj
    have hj2 : (tall l)[s * 4 + j]? = some u := by
      rw [List.getElem?_take] at hj
      split at hj
      · rw [List.getElem?_drop] at hj; exact hj
      · cases hj
    rw [Nat.add_assoc]
    exact hc _ _ hj2
theorem Under.sub {B : Nat} {w : World} {b off : Nat} {l : List Tok} (h : Under B w (some ⟨b, off, none⟩) (tall l)) (s k : Nat) : Under B w (some ⟨b, off + s * 4, none⟩) (tall ((l.drop s).take k)) := fun W hW => (h W hW).sub s k

section
variable {b : Nat} {w : World} {ts ns : List (List UInt8)} {ls : List Lay} {at_ an ap : Option Addr} {ct cn cp : Nat}

/-- How addParts ends. -/
def PartsEnd (b : Nat) (ts ns : List (List UInt8)) (ls : List Lay) (an : Option Addr) (cn : Nat) (left : Int) (body : List Tok) (d : Tok) (e : Ending) (w' : World) : Prop :=
  match partsF ns left body ts (ls.map Lay.plain) [] (body.headD d) with
  | .inr x => e = .panicked [{ v := faultV x.1 x.2.1 x.2.2, recovered := false }]
  | .inl (ts', ps') => e = .returned (.tuple #[]) ∧ Names ts' ns ∧ ps'.length ≤ 24 ∧ ∃ (at' ap' : Option Addr) (ct' cp' : Nat) (ls' : List Lay), Bld b w' ts' ns ls' at' an ap' ct' cn cp' ∧ ls'.map Lay.plain = ps'

set_option maxRecDepth 100000 in
set_option maxHeartbeats 8000000 in
theorem addParts_any (left : Int) (a : Option Addr) (cap : Nat) (body : List Tok) (d : Tok) (h : Bld b w ts ns ls at_ an ap ct cn cp) (hN : Names ts ns) (hb : ∀ t ∈ body, FairT t ∧ t.kind ≠ 3) (hlast : ∀ t, body.getLast? = some t → t.kind = 5)
    (hu : Under b w a (tall body)) (hcap : body.length ≤ cap) (hl : body.length ≤ 4000000) (hc4 : cap ≤ maxLen) (hls : ls.length ≤ 24) :
    Calls Try.prog 142 #[.pointer (some ⟨b, 0, none⟩), .int .i64 left, .slice a body.length cap] w fun e w' => Below b w w' ∧ PartsEnd b ts ns ls an cn left body d e w' := by
  unfold maxLen at hc4
  have HU := Lib.hid hu
  have HN := Lib.hid hN
  have HF := Lib.hid hb
  have HL := Lib.hid hlast
  clear hu hN hb hlast
  go_enter Try.func142, Try.ntmps142
  go_wp2
  go_loopw [6, 11] (fun st i wr => ∃ (k s : Nat) (ts' : List (List UInt8)) (at' ap' : Option Addr) (ct' cp' : Nat) (ls' : List Lay), k ≤ body.length ∧ s ≤ k ∧ i = .int .i64 k ∧ st = .int .i64 s ∧ ls'.length ≤ 24 ∧ Bld b wr ts' ns ls' at' an ap' ct' cn cp' ∧ Names ts' ns ∧
      Below b w wr ∧ Hid (partsF ns left body ts (ls.map Lay.plain) [] (body.headD d) = partsF ns left (body.drop s) ts' (ls'.map Lay.plain) [] ((body.drop s).headD d)) ∧ Hid (∀ j t, s ≤ j → j < k → body[j]? = some t → isName t)) (fun _ i _ => body.length - (intOf i).toNat)
  case atStart => exact ⟨0, 0, ts, at_, ap, ct, cp, ls, Nat.zero_le _, Nat.le_refl _, rfl, rfl, hls, h, HN.out, Below.refl _ _, Lib.hid (by simp), Lib.hid (by intro j t _ hj; omega)⟩
  case round =>
    obtain ⟨k, s, ts', at', ap', ct', cp', ls', hk, hsk, rfl, rfl, hl24, hbl, hnn, hbe, HR, HB⟩ := hrel
    by_cases hlt : k < body.length
    · obtain ⟨t, ht⟩ : ∃ t, body[k]? = some t := ⟨_, List.getElem?_eq_getElem hlt⟩
      have hft := HF.out t (List.mem_of_getElem? ht)
      obtain ⟨bb, off, rfl, hbbl, hc⟩ := (HU.out wr hbe).get (tall_nil_iff (by omega))
      obtain ⟨c0, c1, c2, c3⟩ := tok_cells hc ht
      have e1 : (k : Int) < body.length := by omega
      have hbw := hbl.lt
      by_cases hbar : t.kind = 4 ∨ t.kind = 5
      · have hsl : s < body.length := by omega
        obtain ⟨pt, hpt⟩ : ∃ pt, body[s]? = some pt := ⟨_, List.getElem?_eq_getElem hsl⟩
        have hnt : ¬ isName t := by unfold isName; omega
        have hdt : body.drop s = (body.drop s).take (k - s) ++ t :: body.drop (k + 1) := by
          conv => lhs; rw [← List.take_append_drop (k - s) (body.drop s)]
          rw [List.drop_drop, show s + (k - s) = k by omega, List.drop_eq_getElem_cons hlt]
          have : body[k] = t := by rw [List.getElem?_eq_getElem hlt] at ht; exact Option.some.inj ht
          rw [this]
        have hhd : (body.drop s).headD d = pt := by
          rw [List.drop_eq_getElem_cons hsl]
          have : body[s] = pt := by rw [List.getElem?_eq_getElem hsl] at hpt; exact Option.some.inj hpt
          rw [this]; rfl
        have hnms : ∀ x ∈ (body.drop s).take (k - s), isName x ∧ FairT x := by
          intro x hx
          obtain ⟨j, hj, e⟩ := List.getElem_of_mem hx
          rw [List.length_take, List.length_drop] at hj
          have hxj : body[s + j]? = some x := by
            rw [List.getElem_take, List.getElem_drop] at e
            rw [List.getElem?_eq_getElem (by omega), e]
          exact ⟨HB.out (s + j) x (by omega) (by omega) hxj, (HF.out x (List.mem_of_getElem? hxj)).1⟩
        have hstep : partsF ns left body ts (ls.map Lay.plain) [] (body.headD d) = match prodF ns left ((body.drop s).take (k - s)) pt ts' (ls'.map Lay.plain) with
            | .inr e => .inr e
            | .inl (ts2, ps2) => partsF ns left (body.drop (k + 1)) ts2 ps2 [] ((body.drop (k + 1)).headD pt) := by
          rw [HR.out, hhd]
          conv => lhs; rw [hdt]
          exact parts_prod ns left _ t _ ts' _ pt (fun x hx => (hnms x hx).1) hnt
        have hlenN : ((body.drop s).take (k - s)).length = k - s := by rw [List.length_take, List.length_drop]; omega
        have hun := (HU.out).sub s (k - s)
        obtain ⟨p0, p1, p2, p3⟩ := tok_cells hc hpt
        obtain ⟨tk, tt, tln, tc⟩ := t
        obtain ⟨pk, ptt, pln, pc⟩ := pt
        simp only at c0 c1 c2 c3 p0 p1 p2 p3 hbar
        have hk45 : (((tk : Int) == 4) = true) ∨ (((tk : Int) == 4) = false ∧ ((tk : Int) == 5) = true) := by
          rcases hbar with h | h
          · left; simp [h]
          · right; simp [h]
        have hS : Below wr.heap.size wr (wr.alloc (.cells #[.int .i64 tk, .string ⟨tt.toArray⟩, .int .i64 tln, .int .i64 tc] 198)) := (Below.refl _ _).alloc (Nat.le_refl _) _
        have hbeS := hbe.alloc (Nat.le_of_lt hbw) (.cells #[.int .i64 tk, .string ⟨tt.toArray⟩, .int .i64 tln, .int .i64 tc] 198)
        have hap := addProd_any (w := (wr.alloc (.cells #[.int .i64 tk, .string ⟨tt.toArray⟩, .int .i64 tln, .int .i64 tc] 198)).drew) left (some ⟨bb, off + s * 4, none⟩) (cap - s) ((body.drop s).take (k - s)) ⟨pk, ptt, pln, pc⟩ ((hbl.below hS).below (Below.refl _ _).drew) hnn hnms (hun.trans hbeS.drew) (by omega) hl24
        unfold tokV ProdEnd at hap
        rw [hlenN] at hap
        simp only at hap
        have hcs : s < cap := by omega
        have i1 : (0 : Int) ≤ s := by omega
        have i2 : (s : Int) ≤ k := by omega
        have i3 : (k : Int) ≤ cap := by omega
        have i4 : (s : Int) < body.length := by omega
        have i5 : ¬ cap = s := by omega
        have i6 : ((k : Int) - s).toNat = k - s := by omega
        cases hpf : prodF ns left ((body.drop s).take (k - s)) ⟨pk, ptt, pln, pc⟩ ts' (ls'.map Lay.plain) with
        | inr x =>
          rw [hpf] at hap hstep
          simp only at hap hstep
          have HST := Lib.hid hstep
          have HAP := Lib.hid hap
          have HBS := Lib.hid hbeS
          clear hap hbeS hstep hun hnms hhd hdt hnt hpt ht hc hS hbar hft HB HR hlenN hpf
          rcases hk45 with hk4 | ⟨hk4, hk5⟩
          all_goals
            go_wp2
            go_region_dies
            all_goals
              go_at_call 170
              with_reducible refine HAP.out.mono ?_
              rintro e w2 ⟨hb2, rfl⟩
              exact ⟨rfl, HBS.out.drew.trans hb2, by unfold PartsEnd; rw [HST.out]⟩
        | inl y =>
          obtain ⟨ts2, ps2⟩ := y
          have hpl := prod_len hpf
          rw [hpf] at hap hstep
          simp only at hap hstep hpl
          have HST := Lib.hid hstep
          have HAP := Lib.hid hap
          have HBS := Lib.hid hbeS
          clear hap hbeS hstep hun hnms hhd hdt hnt hpt ht hc hS hbar hft HB HR hlenN hpf
          rcases hk45 with hk4 | ⟨hk4, hk5⟩
          all_goals
            go_wp2
            go_region_law (first
              | (go_simp
                 go_at_call 170
                 with_reducible refine HAP.out.mono ?_
                 rintro e w2 ⟨hb2, rfl, hn2, at2, ap2, ct2, cp2, ls2, hbl2, hls2⟩))
            all_goals
              have hrel := HBS.out.drew.trans hb2
              have H1 : Hid (partsF ns left body ts (ls.map Lay.plain) [] (body.headD d) = partsF ns left (body.drop (k + 1)) ts2 (ls2.map Lay.plain) [] ((body.drop (k + 1)).headD d)) := Lib.hid (by rw [HST.out, hls2]; exact parts_head ..)
              have HL2 := Lib.hid hls2
              clear hls2
              go_wp2
              go_roundw
              case rel => exact ⟨k + 1, k + 1, ts2, at2, ap2, ct2, cp2, ls2, by omega, by omega, by go_num, by go_num, by have := congrArg List.length HL2.out; simp only [List.length_map] at this; omega, hbl2, hn2, hrel, H1, Lib.hid (by intro j t h1 h2; omega)⟩
              case measure => simp [intOf]; omega
      · have hk4 : ((t.kind : Int) == 4) = false := by simp; omega
        have hk5 : ((t.kind : Int) == 5) = false := by simp; omega
        have hname : isName t := by have h1 := hft.1.one; have h5 := hft.1.five; have := hft.2; unfold isName; omega
        have HB2 : Hid (∀ j t, s ≤ j → j < k + 1 → body[j]? = some t → isName t) := Lib.hid fun j u hsj hj hu => by
          by_cases hjk : j = k
          · subst hjk; rw [ht] at hu; cases hu; exact hname
          · exact HB.out j u hsj (by omega) hu
        have hal : ∀ o, Below b w (wr.alloc o) := fun o => hbe.alloc (Nat.le_of_lt hbw) o
        have hbo : ∀ o, Bld b (wr.alloc o) ts' ns ls' at' an ap' ct' cn cp' := fun o => hbl.alloc o
        have HAL := Lib.hid hal
        have HBO := Lib.hid hbo
        clear hal hbo hbar hft hname hc ht HB
        go_wp2
        go_roundw
        case rel => exact ⟨k + 1, s, ts', at', ap', ct', cp', ls', by omega, by omega, by go_num, rfl, hl24, HBO.out _, hnn, HAL.out _, HR, HB2⟩
        case measure => simp [intOf]; omega
    · have hsb : s = body.length := by
        rcases Nat.lt_or_ge s body.length with hs | hs
        · exfalso
          have hg : body.getLast? = body[body.length - 1]? := List.getLast?_eq_getElem? 
          have hx : body[body.length - 1]? = some (body[body.length - 1]'(by omega)) := List.getElem?_eq_getElem (by omega)
          have h5 := HL.out _ (hg.trans hx)
          have hn := HB.out (body.length - 1) _ (by omega) (by omega) hx
          unfold isName at hn
          omega
        · omega
      have hend : partsF ns left (body.drop s) ts' (ls'.map Lay.plain) [] ((body.drop s).headD d) = .inl (ts', ls'.map Lay.plain) := by rw [List.drop_of_length_le (by omega)]; rfl
      have HD := Lib.hid (HR.out.trans hend)
      have e1 : ¬ (k : Int) < body.length := by omega
      clear hend hsb HR HB
      go_wp2
      go_end0
      refine ⟨hbe, ?_⟩
      unfold PartsEnd
      rw [HD.out]
      exact ⟨rfl, hnn, by simpa using hl24, _, _, _, _, _, hbl, rfl⟩
end

end Go.Proofs.Ytjlohjkhnjemaaa
