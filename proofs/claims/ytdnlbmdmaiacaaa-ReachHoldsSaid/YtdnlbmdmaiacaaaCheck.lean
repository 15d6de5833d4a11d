/- What a grammar may be; which ones have a text. No program here. -/
import Derived.Test.YtdnlbmdmaiacaaaPrint
namespace Go.Proofs.Ytdnlbmdmaiacaaa.Doc

structure CheckG (g : Gr) : Prop where
  t1 : 1 ≤ g.terms.length
  t8 : g.terms.length ≤ 8
  n1 : 1 ≤ g.nons.length
  n8 : g.nons.length ≤ 8
  p1 : 1 ≤ g.prods.length
  p24 : g.prods.length ≤ 24
  tk : ∀ x ∈ g.terms, kindOf x = 2
  tn : g.terms.Nodup
  nk : ∀ x ∈ g.nons, kindOf x = 1
  nn : g.nons.Nodup
  some_ : ∀ i, i < g.nons.length → ∃ p ∈ g.prods, p.1 = ((100 + i : Nat) : Int)
  pv : ∀ p ∈ g.prods, (100 ≤ p.1 ∧ p.1 < 100 + (g.nons.length : Int)) ∧ p.2.length ≤ 6 ∧ ∀ s ∈ p.2, symOk g.terms.length g.nons.length s
  pn : g.prods.Nodup

theorem lay_mem : ∀ (rows : List (List (List Int))) (i : Nat) (p : Int × List Int), p ∈ lay i rows → ∃ j, j < rows.length ∧ p.1 = ((100 + (i + j) : Nat) : Int)
  | [], _, _, h => by simp [lay] at h
  | r :: l, i, p, h => by
    simp only [lay] at h
    rcases List.mem_append.1 h with h | h
    · obtain ⟨x, _, rfl⟩ := List.mem_map.1 h
      exact ⟨0, by simp, rfl⟩
    · obtain ⟨j, hj, e⟩ := lay_mem l (i + 1) p h
      exact ⟨j + 1, by simpa using hj, by rw [e]; congr 1; omega⟩
theorem lay_has : ∀ (rows : List (List (List Int))) (i j : Nat), j < rows.length → (∀ r ∈ rows, r ≠ []) → ∃ p ∈ lay i rows, p.1 = ((100 + (i + j) : Nat) : Int)
  | [], _, _, h, _ => by simp at h
  | r :: l, i, 0, _, hne => by
    have hr := hne r List.mem_cons_self
    cases r with
    | nil => exact absurd rfl hr
    | cons x r => exact ⟨_, by simp only [lay, List.map_cons, List.cons_append]; exact List.mem_cons_self, rfl⟩
  | r :: l, i, j + 1, h, hne => by
    obtain ⟨p, hp, e⟩ := lay_has l (i + 1) j (by simpa using h) (fun x hx => hne x (List.mem_cons_of_mem _ hx))
    exact ⟨p, by simp only [lay]; exact List.mem_append_right _ hp, by rw [e]; congr 1; omega⟩

theorem good_check (g : Gr) (h : Good g) : CheckG g := by
  obtain ⟨rows, h1, h2, h3⟩ := h.rows
  have hn : 1 ≤ g.nons.length := by
    have := h.np
    cases hx : g.nons with
    | nil => exact absurd hx this
    | cons a l => simp
  refine ⟨?_, h.v.tl, hn, h.nl, ?_, h.v.pl, h.v.tk, h.v.tn, h.nk, h.nn, ?_, ?_, h.v.pn⟩
  · have := h.tp
    cases hx : g.terms with
    | nil => exact absurd hx this
    | cons a l => simp
  · obtain ⟨p, hp, _⟩ := lay_has rows 0 0 (by omega) h2
    rw [← h3] at hp
    cases hx : g.prods with
    | nil => rw [hx] at hp; simp at hp
    | cons a l => simp
  · intro i hi
    obtain ⟨p, hp, e⟩ := lay_has rows 0 i (by omega) h2
    rw [← h3] at hp
    exact ⟨p, hp, by rw [e]; congr 1; omega⟩
  · intro p hp
    have hv := h.v.pv p hp
    rw [h3] at hp
    obtain ⟨j, hj, e⟩ := lay_mem rows 0 p hp
    exact ⟨by omega, hv.1, hv.2⟩

/-- The document's own Print has a text just of the good ones. -/
theorem print_iff (g : Gr) : CheckG g ∧ parse (textG g) = .ok g ↔ Good g :=
  ⟨fun h => read_good _ g h.2, fun h => ⟨good_check g h, good_text g h⟩⟩

/-- What stands by its left is rows of rows. -/
theorem sorted_lay : ∀ (m i : Nat) (ps : List (Int × List Int)), (ps.map (·.1)).Pairwise (· ≤ ·) → (∀ p ∈ ps, ((100 + i : Nat) : Int) ≤ p.1 ∧ p.1 < ((100 + i + m : Nat) : Int)) →
    ps = lay i ((List.range m).map fun j => (ps.filter fun p => p.1 == ((100 + (i + j) : Nat) : Int)).map (·.2))
  | 0, i, ps, _, hb => by
    cases ps with
    | nil => rfl
    | cons p l => have := hb p List.mem_cons_self; omega
  | m + 1, i, ps, hs, hb => by
    have hpart : ∀ (qs : List (Int × List Int)), (qs.map (·.1)).Pairwise (· ≤ ·) → (∀ p ∈ qs, ((100 + i : Nat) : Int) ≤ p.1) →
        qs = (qs.filter fun p => p.1 == ((100 + i : Nat) : Int)) ++ qs.filter fun p => !(p.1 == ((100 + i : Nat) : Int)) := by
      intro qs
      induction qs with
      | nil => intro _ _; rfl
      | cons q l ih =>
        intro h1 h2
        simp only [List.map_cons, List.pairwise_cons] at h1
        have ih' := ih h1.2 (fun p hp => h2 p (List.mem_cons_of_mem _ hp))
        by_cases hq : q.1 = ((100 + i : Nat) : Int)
        · rw [List.filter_cons_of_pos (by simpa using hq), List.filter_cons_of_neg (by simpa using hq), List.cons_append, ← ih']
        · have hgt : ∀ p ∈ q :: l, ¬ p.1 = ((100 + i : Nat) : Int) := by
            intro p hp
            have h0 := h2 q List.mem_cons_self
            rcases List.mem_cons.1 hp with rfl | hp
            · exact hq
            · have := h1.1 p.1 (List.mem_map_of_mem hp)
              omega
          rw [List.filter_eq_nil_iff.2 (by intro p hp; simpa using hgt p hp), List.nil_append, List.filter_eq_self.2 (by intro p hp; simpa using hgt p hp)]
    have e := hpart ps hs (fun p hp => (hb p hp).1)
    have hs2 : ((ps.filter fun p => !(p.1 == ((100 + i : Nat) : Int))).map (·.1)).Pairwise (· ≤ ·) := hs.sublist ((List.filter_sublist).map _)
    have ih := sorted_lay m (i + 1) (ps.filter fun p => !(p.1 == ((100 + i : Nat) : Int))) hs2 (by
      intro p hp
      obtain ⟨hp1, hp2⟩ := List.mem_filter.1 hp
      have := hb p hp1
      simp at hp2
      omega)
    have hrow : ((ps.filter fun p => p.1 == ((100 + i : Nat) : Int)).map (·.2)).map (fun x => (((100 + i : Nat) : Int), x)) = ps.filter fun p => p.1 == ((100 + i : Nat) : Int) := by
      rw [List.map_map]
      conv => rhs; rw [← List.map_id (ps.filter fun p => p.1 == ((100 + i : Nat) : Int))]
      apply List.map_congr_left
      intro p hp
      have := (List.mem_filter.1 hp).2
      simp at this
      obtain ⟨a, b⟩ := p
      simp at this ⊢
      exact this.symm
    have hlast : (List.range m).map (fun j => ((ps.filter fun p => !(p.1 == ((100 + i : Nat) : Int))).filter fun p => p.1 == ((100 + (i + 1 + j) : Nat) : Int)).map (·.2)) = (List.range m).map fun j => (ps.filter fun p => p.1 == ((100 + (i + (j + 1)) : Nat) : Int)).map (·.2) := by
      apply List.map_congr_left
      intro j _
      rw [List.filter_filter]
      congr 1
      apply List.filter_congr
      intro p _
      rw [Bool.eq_iff_iff]
      simp
      omega
    rw [hlast] at ih
    rw [List.range_succ_eq_map, List.map_cons, List.map_map]
    simp only [lay, Nat.add_zero]
    rw [hrow, show (fun j => (ps.filter fun p => p.1 == ((100 + (i + j) : Nat) : Int)).map (·.2)) ∘ Nat.succ = fun j => (ps.filter fun p => p.1 == ((100 + (i + (j + 1)) : Nat) : Int)).map (·.2) from rfl, ← ih]
    exact e

theorem pw_const (r : List (List Int)) (c : Int) : (r.map ((fun p : Int × List Int => p.1) ∘ fun x => (c, x))).Pairwise (· ≤ ·) := by
  induction r with
  | nil => simp
  | cons x r ih =>
    rw [List.map_cons, List.pairwise_cons]
    refine ⟨fun a ha => ?_, ih⟩
    obtain ⟨y, _, rfl⟩ := List.mem_map.1 ha
    exact Int.le_refl c

/-- In plain words: a grammar that may be has a text just if its terminals come in order, and its productions stand by their left. -/
theorem good_iff (g : Gr) : Good g ↔ CheckG g ∧ ordRows 0 (g.prods.map (·.2)) = some g.terms.length ∧ (g.prods.map (·.1)).Pairwise (· ≤ ·) := by
  constructor
  · intro h
    refine ⟨good_check g h, ?_, ?_⟩
    · have := h.v.ord
      rw [ordRows_append] at this
      cases hx : ordRows 0 (g.prods.map (·.2)) with
      | none => rw [hx] at this; cases this
      | some m =>
        rw [hx] at this
        simpa [ordRows, ordRow] using this
    · obtain ⟨rows, _, _, h3⟩ := h.rows
      rw [h3]
      have : ∀ (rows : List (List (List Int))) (i : Nat), ((lay i rows).map (·.1)).Pairwise (· ≤ ·) := by
        intro rows
        induction rows with
        | nil => intro i; simp [lay]
        | cons r l ih =>
          intro i
          simp only [lay, List.map_append, List.map_map]
          rw [List.pairwise_append]
          refine ⟨?_, ih (i + 1), ?_⟩
          · exact pw_const r _
          · intro a ha b hb
            obtain ⟨x, _, rfl⟩ := List.mem_map.1 ha
            obtain ⟨p, hp, rfl⟩ := List.mem_map.1 hb
            obtain ⟨j, _, e⟩ := lay_mem l (i + 1) p hp
            rw [e]
            simp
            omega
      exact this rows 0
  · rintro ⟨h, ho, hs⟩
    have hlay := sorted_lay g.nons.length 0 g.prods hs (fun p hp => by have := (h.pv p hp).1; omega)
    refine ⟨?_, ⟨h.tn, h.t8, h.tk, h.pn, h.p24, fun p hp => (h.pv p hp).2, by simp, by simp, ?_⟩, ?_, h.nn, h.n8, h.nk, _, by simp, ?_, hlay⟩
    · intro e; have := h.t1; rw [e] at this; simp at this
    · rw [ordRows_append, ho]; rfl
    · intro e; have := h.n1; rw [e] at this; simp at this
    · intro r hr
      obtain ⟨j, hj, rfl⟩ := List.mem_map.1 hr
      obtain ⟨p, hp, e⟩ := h.some_ j (List.mem_range.1 hj)
      intro he
      rw [List.map_eq_nil_iff, List.filter_eq_nil_iff] at he
      exact he p hp (by simp [e])

end Go.Proofs.Ytdnlbmdmaiacaaa.Doc
