/- A good grammar's own tokens are read as it. No program here. -/
import Derived.Test.YtdnlbmdmaiacaaaWell
namespace Go.Proofs.Ytdnlbmdmaiacaaa.Doc

/-- A symbol's name. -/
def symName (g : Gr) (s : Int) : List UInt8 := if 100 ≤ s then g.nons.getD (s - 100).toNat [] else g.terms.getD (s - 1).toNat []
def symTok (g : Gr) (s : Int) : Bare := if 100 ≤ s then (1, g.nons.getD (s - 100).toNat []) else (2, g.terms.getD (s - 1).toNat [])

/-- The tokens behind a rule's colon, the line's end with them. -/
def toksOf (g : Gr) : List (List Int) → List Bare
  | [] => [(5, [])]
  | [r] => r.map (symTok g) ++ [(5, [])]
  | r :: q :: l => r.map (symTok g) ++ (4, [124]) :: toksOf g (q :: l)

def linesB (g : Gr) : List (List UInt8) → List (List (List Int)) → List Bare
  | n :: ns, r :: rs => (1, n) :: (3, [58]) :: (toksOf g r ++ linesB g ns rs)
  | _, _ => []

def rulesOf (g : Gr) : List (List UInt8) → List (List (List Int)) → List (List UInt8 × List Bare)
  | n :: ns, r :: rs => (n, toksOf g r) :: rulesOf g ns rs
  | _, _ => []

theorem ordRow_le : ∀ (r : List Int) (n n' nt nn : Nat), ordRow n r = some n' → (∀ s ∈ r, symOk nt nn s) → n ≤ nt → n ≤ n' ∧ n' ≤ nt
  | [], n, n', _, _, h, _, hn => by simp only [ordRow, Option.some.injEq] at h; omega
  | s :: l, n, n', nt, nn, h, hs, hn => by
    have hs' : ∀ x ∈ l, symOk nt nn x := fun x hx => hs x (List.mem_cons_of_mem _ hx)
    have h0 := hs s List.mem_cons_self
    simp only [ordRow] at h
    split at h
    · exact ordRow_le l n n' nt nn h hs' hn
    · split at h
      · have : n + 1 ≤ nt := by unfold symOk at h0; omega
        have := ordRow_le l (n + 1) n' nt nn h hs' this
        omega
      · split at h
        · exact ordRow_le l n n' nt nn h hs' hn
        · cases h

theorem take_nodup {l : List (List UInt8)} (h : l.Nodup) (n : Nat) : (l.take n).Nodup := h.sublist (List.take_sublist n l)

theorem row_read (g : Gr) (left : Int) (tn : g.terms.Nodup) (tl : g.terms.length ≤ 8) (nn : g.nons.Nodup) (L : List Bare) (ps : List (Int × List Int)) : ∀ (r : List Int) (n n' : Nat) (r0 : List Int),
    ordRow n r = some n' → (∀ s ∈ r, symOk g.terms.length g.nons.length s) → n ≤ g.terms.length → r0.length + r.length ≤ 6 →
    partsB g.nons left (r.map (symTok g) ++ L) (g.terms.take n) ps r0 = partsB g.nons left L (g.terms.take n') ps (r0 ++ r)
  | [], n, n', r0, h, _, _, _ => by
    simp only [ordRow, Option.some.injEq] at h
    subst h
    simp
  | s :: l, n, n', r0, h, hs, hn, h6 => by
    have hs' : ∀ x ∈ l, symOk g.terms.length g.nons.length x := fun x hx => hs x (List.mem_cons_of_mem _ hx)
    have h0 := hs s List.mem_cons_self
    simp only [List.length_cons] at h6
    have h6' : ¬ 6 ≤ r0.length := by omega
    have hlen : (g.terms.take n).length = n := by rw [List.length_take]; omega
    simp only [ordRow] at h
    by_cases h100 : 100 ≤ s
    · rw [if_pos h100] at h
      have hk : (s - 100).toNat < g.nons.length := by unfold symOk at h0; omega
      have hi := idx_at nn (List.getElem?_eq_getElem hk)
      have ih := row_read g left tn tl nn L ps l n n' (r0 ++ [s]) h hs' hn (by simp; omega)
      have hsym : symTok g s = (1, g.nons[(s - 100).toNat]) := by
        unfold symTok; rw [if_pos h100, List.getD_eq_getElem?_getD, List.getElem?_eq_getElem hk]; rfl
      have hval : (((100 + (s - 100).toNat : Nat)) : Int) = s := by omega
      simp only [List.map_cons, List.cons_append, hsym, partsB]
      rw [if_pos (by simp), if_neg h6', if_pos trivial, hi]
      simp only []
      rw [hval, ih]
      simp
    · rw [if_neg h100] at h
      have hk1 : 1 ≤ s ∧ s ≤ g.terms.length := by unfold symOk at h0; omega
      have hk : (s - 1).toNat < g.terms.length := by omega
      have hsym : symTok g s = (2, g.terms[(s - 1).toNat]) := by
        unfold symTok; rw [if_neg h100, List.getD_eq_getElem?_getD, List.getElem?_eq_getElem hk]; rfl
      by_cases hnew : s = n + 1
      · rw [if_pos hnew] at h
        have hk2 : (s - 1).toNat = n := by omega
        have ih := row_read g left tn tl nn L ps l (n + 1) n' (r0 ++ [s]) h hs' (by omega) (by simp; omega)
        have hout : g.terms[(s - 1).toNat] ∉ g.terms.take n := by
          intro hm
          obtain ⟨j, hj, e⟩ := List.getElem_of_mem hm
          rw [List.getElem_take] at e
          have := nodup_at tn (by rw [List.length_take] at hj; omega) hk e
          rw [List.length_take] at hj
          omega
        have htk : g.terms.take n ++ [g.terms[(s - 1).toNat]] = g.terms.take (n + 1) := by
          rw [List.take_succ_eq_append_getElem (by omega)]
          simp [hk2]
        simp only [List.map_cons, List.cons_append, hsym, partsB]
        rw [if_pos (by simp), if_neg h6', if_neg (by simp), idx_out hout]
        simp only []
        rw [if_neg (by omega), htk, hlen, show ((n + 1 : Nat) : Int) = s by omega, ih]
        simp
      · rw [if_neg hnew] at h
        by_cases hold : 1 ≤ s ∧ s ≤ n
        · rw [if_pos hold] at h
          have ih := row_read g left tn tl nn L ps l n n' (r0 ++ [s]) h hs' hn (by simp; omega)
          have hi : idx (g.terms.take n) g.terms[(s - 1).toNat] = some (s - 1).toNat := by
            refine idx_at (take_nodup tn n) ?_
            rw [List.getElem?_take_of_lt (by omega), List.getElem?_eq_getElem hk]
          simp only [List.map_cons, List.cons_append, hsym, partsB]
          rw [if_pos (by simp), if_neg h6', if_neg (by simp), hi]
          simp only []
          rw [show (((s - 1).toNat + 1 : Nat) : Int) = s by omega, ih]
          simp
        · rw [if_neg hold] at h; cases h

theorem rows_read (g : Gr) (left : Int) (tn : g.terms.Nodup) (tl : g.terms.length ≤ 8) (nn : g.nons.Nodup) : ∀ (rows : List (List Int)) (n n' : Nat) (ps : List (Int × List Int)),
    rows ≠ [] → ordRows n rows = some n' → (∀ r ∈ rows, r.length ≤ 6 ∧ ∀ s ∈ r, symOk g.terms.length g.nons.length s) → n ≤ g.terms.length → (ps ++ rows.map fun r => (left, r)).Nodup → (ps ++ rows.map fun r => (left, r)).length ≤ 24 →
    partsB g.nons left (toksOf g rows) (g.terms.take n) ps [] = some (g.terms.take n', ps ++ rows.map fun r => (left, r))
  | [], _, _, _, h, _, _, _, _, _ => absurd rfl h
  | [r], n, n', ps, _, ho, hs, hn, hd, hl => by
    rw [ordRows_one] at ho
    have h1 := hs r (by simp)
    simp only [toksOf]
    rw [row_read g left tn tl nn [(5, [])] ps r n n' [] ho h1.2 hn (by simpa using h1.1)]
    simp only [partsB]
    rw [if_neg (by simp), if_neg (by simp at hl; omega), if_neg]
    · simp
    · intro hm
      simp only [List.map_cons, List.map_nil] at hd
      rw [List.nodup_append] at hd
      exact hd.2.2 _ hm (left, r) (by simp) (by simp)
  | r :: q :: l, n, n', ps, _, ho, hs, hn, hd, hl => by
    have h1 := hs r (by simp)
    simp only [ordRows] at ho
    cases hm : ordRow n r with
    | none => rw [hm] at ho; cases ho
    | some m =>
      rw [hm] at ho
      have hmle := ordRow_le r n m _ _ hm h1.2 hn
      simp only [toksOf]
      rw [row_read g left tn tl nn ((4, [124]) :: toksOf g (q :: l)) ps r n m [] hm h1.2 hn (by simpa using h1.1)]
      simp only [partsB]
      rw [if_neg (by simp), if_neg (by simp at hl; omega), if_neg]
      · rw [show ([] ++ r : List Int) = r from rfl, rows_read g left tn tl nn (q :: l) m n' (ps ++ [(left, r)]) (by simp) (by simpa [ordRows] using ho) (fun x hx => hs x (List.mem_cons_of_mem _ hx)) hmle.2 (by simpa using hd) (by simpa using hl)]
        simp
      · intro hmm
        simp only [List.map_cons] at hd
        rw [List.nodup_append] at hd
        exact hd.2.2 _ hmm (left, r) (by simp) (by simp)

theorem ordRows_le : ∀ (rows : List (List Int)) (n n' nt nn : Nat), ordRows n rows = some n' → (∀ r ∈ rows, ∀ s ∈ r, symOk nt nn s) → n ≤ nt → n ≤ n' ∧ n' ≤ nt
  | [], n, n', _, _, h, _, hn => by simp only [ordRows, Option.some.injEq] at h; omega
  | r :: l, n, n', nt, nn, h, hs, hn => by
    simp only [ordRows] at h
    cases hm : ordRow n r with
    | none => rw [hm] at h; cases h
    | some m =>
      rw [hm] at h
      have h1 := ordRow_le r n m nt nn hm (hs r List.mem_cons_self) hn
      have h2 := ordRows_le l m n' nt nn h (fun x hx => hs x (List.mem_cons_of_mem _ hx)) h1.2
      omega

theorem bodies_read (g : Gr) (tn : g.terms.Nodup) (tl : g.terms.length ≤ 8) (nn : g.nons.Nodup) : ∀ (ns : List (List UInt8)) (rows : List (List (List Int))) (i n n' : Nat) (ps : List (Int × List Int)),
    ns.length = rows.length → (∀ r ∈ rows, r ≠ []) → ordRows n rows.flatten = some n' → (∀ r ∈ rows.flatten, r.length ≤ 6 ∧ ∀ s ∈ r, symOk g.terms.length g.nons.length s) → n ≤ g.terms.length → (ps ++ lay i rows).Nodup → (ps ++ lay i rows).length ≤ 24 →
    bodiesB g.nons (rulesOf g ns rows) i (g.terms.take n) ps = some (g.terms.take n', ps ++ lay i rows)
  | [], [], i, n, n', ps, _, _, ho, _, _, _, _ => by
    simp only [List.flatten_nil, ordRows, Option.some.injEq] at ho
    subst ho
    simp [rulesOf, bodiesB, lay]
  | [], _ :: _, _, _, _, _, h, _, _, _, _, _, _ => by simp at h
  | _ :: _, [], _, _, _, _, h, _, _, _, _, _, _ => by simp at h
  | m :: ns, r :: rows, i, n, n', ps, hl, hne, ho, hs, hn, hd, h24 => by
    rw [List.flatten_cons, ordRows_append] at ho
    cases hk : ordRows n r with
    | none => rw [hk] at ho; cases ho
    | some k =>
      rw [hk] at ho
      have hsr : ∀ x ∈ r, x.length ≤ 6 ∧ ∀ s ∈ x, symOk g.terms.length g.nons.length s := fun x hx => hs x (by rw [List.flatten_cons]; exact List.mem_append_left _ hx)
      have hkl := ordRows_le r n k _ _ hk (fun x hx => (hsr x hx).2) hn
      have hd2 : (ps ++ (r.map (fun x => (((100 + i : Nat) : Int), x)) ++ lay (i + 1) rows)).Nodup := hd
      have h242 : (ps ++ (r.map (fun x => (((100 + i : Nat) : Int), x)) ++ lay (i + 1) rows)).length ≤ 24 := h24
      rw [← List.append_assoc] at hd2 h242
      have h1 := rows_read g ((100 + i : Nat) : Int) tn tl nn r n k ps (hne r List.mem_cons_self) hk hsr hn (List.nodup_append.1 hd2).1 (by rw [List.length_append] at h242; omega)
      simp only [rulesOf, bodiesB]
      rw [h1]
      simp only []
      rw [bodies_read g tn tl nn ns rows (i + 1) k n' _ (by simpa using hl) (fun x hx => hne x (List.mem_cons_of_mem _ hx)) ho (fun x hx => hs x (by rw [List.flatten_cons]; exact List.mem_append_right _ hx)) hkl.2 hd2 h242]
      simp [lay]

/-- Tokens within a rule's parts are names and bars. -/
theorem toks_rule (g : Gr) (L : List Bare) (n : List UInt8) : ∀ (rows : List (List Int)) (acc : List Bare), ruleB (toksOf g rows ++ L) (.parts n acc) = (ruleB L .start).map ((n, acc ++ toksOf g rows) :: ·) := by
  have hrow : ∀ (r : List Int) (M : List Bare) (acc : List Bare), ruleB (r.map (symTok g) ++ M) (.parts n acc) = ruleB M (.parts n (acc ++ r.map (symTok g))) := by
    intro r
    induction r with
    | nil => intro M acc; simp
    | cons s l ih =>
      intro M acc
      have hk : (symTok g s).1 = 1 ∨ (symTok g s).1 = 2 := by unfold symTok; split <;> simp
      simp only [List.map_cons, List.cons_append, ruleB]
      rw [if_neg (by omega), if_neg (by omega), ih]
      simp
  intro rows
  induction rows with
  | nil => intro acc; simp [toksOf, ruleB]
  | cons r l ih =>
    intro acc
    cases l with
    | nil =>
      simp only [toksOf, List.append_assoc]
      rw [hrow]
      simp [ruleB]
    | cons q l =>
      simp only [toksOf, List.append_assoc, List.cons_append]
      rw [hrow]
      simp only [ruleB]
      rw [if_neg (by decide), if_neg (by decide), ih]
      simp

theorem lines_rule (g : Gr) : ∀ (ns : List (List UInt8)) (rows : List (List (List Int))), ruleB (linesB g ns rows) .start = some (rulesOf g ns rows)
  | [], _ => by simp [linesB, rulesOf, ruleB]
  | _ :: _, [] => by simp [linesB, rulesOf, ruleB]
  | n :: ns, r :: rows => by
    simp only [linesB, rulesOf]
    rw [show ruleB ((1, n) :: (3, [58]) :: (toksOf g r ++ linesB g ns rows)) .start = ruleB (toksOf g r ++ linesB g ns rows) (.parts n []) from rfl, toks_rule, lines_rule g ns rows]
    simp

theorem names_read : ∀ (l ns : List (List UInt8)), (ns ++ l).Nodup → (ns ++ l).length ≤ 8 → namesB l ns = some (ns ++ l)
  | [], ns, _, _ => by simp [namesB]
  | n :: l, ns, hn, h8 => by
    have hm : n ∉ ns := by
      intro hm
      rw [List.nodup_append] at hn
      exact hn.2.2 n hm n List.mem_cons_self rfl
    simp only [namesB]
    rw [idx_out hm, if_neg (by simp), if_neg (by simp at h8; omega), names_read l (ns ++ [n]) (by simpa using hn) (by simpa using h8)]
    simp

theorem rules_names (g : Gr) : ∀ (ns : List (List UInt8)) (rows : List (List (List Int))), ns.length = rows.length → (rulesOf g ns rows).map (·.1) = ns
  | [], [], _ => rfl
  | [], _ :: _, h => by simp at h
  | _ :: _, [], h => by simp at h
  | n :: ns, r :: rows, h => by simp [rulesOf, rules_names g ns rows (by simpa using h)]

theorem lay_snd : ∀ (rows : List (List (List Int))) (i : Nat), (lay i rows).map (·.2) = rows.flatten
  | [], _ => rfl
  | r :: l, i => by simp [lay, lay_snd l (i + 1), Function.comp_def]

/-- A good grammar's lines are read as it. -/
theorem good_read (g : Gr) (h : Good g) : ∃ rows : List (List (List Int)), rows.length = g.nons.length ∧ (∀ r ∈ rows, r ≠ []) ∧ g.prods = lay 0 rows ∧ parseB (linesB g g.nons rows) = some g := by
  obtain ⟨rows, h1, h2, h3⟩ := h.rows
  refine ⟨rows, h1, h2, h3, ?_⟩
  have hfl : rows.flatten = g.prods.map (·.2) := by rw [h3, lay_snd]
  have ho : ordRows 0 rows.flatten = some g.terms.length := by
    have := h.v.ord
    rw [ordRows_append] at this
    rw [hfl]
    cases hx : ordRows 0 (g.prods.map (·.2)) with
    | none => rw [hx] at this; cases this
    | some m =>
      rw [hx] at this
      simpa [ordRows, ordRow] using this
  have hs : ∀ r ∈ rows.flatten, r.length ≤ 6 ∧ ∀ s ∈ r, symOk g.terms.length g.nons.length s := by
    intro r hr
    rw [hfl] at hr
    obtain ⟨p, hp, rfl⟩ := List.mem_map.1 hr
    exact h.v.pv p hp
  have hb := bodies_read g h.v.tn h.v.tl h.nn g.nons rows 0 0 g.terms.length [] h1.symm h2 ho hs (Nat.zero_le _) (by rw [List.nil_append, ← h3]; exact h.v.pn) (by rw [List.nil_append, ← h3]; exact h.v.pl)
  unfold parseB
  rw [lines_rule]
  simp only []
  rw [rules_names g g.nons rows h1.symm, names_read g.nons [] (by simpa using h.nn) (by simpa using h.nl)]
  have hne : ¬ rulesOf g g.nons rows = [] := by
    have hnp := h.np
    intro e
    have := rules_names g g.nons rows h1.symm
    rw [e] at this
    exact hnp this.symm
  rw [if_neg hne]
  simp only [List.nil_append]
  rw [List.take_zero] at hb
  rw [hb]
  simp only [List.take_length, List.nil_append]
  rw [if_neg (by simpa using h.tp), ← h3]

end Go.Proofs.Ytdnlbmdmaiacaaa.Doc
