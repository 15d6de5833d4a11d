/- What write writes of a grammar that Check takes is the text of it; how long it is. No program here. -/
import Derived.Test.YtjlohjkhnjemaaaWriteG
namespace Go.Proofs.Ytjlohjkhnjemaaa
open Doc

theorem name_sym {g : Gr} (h8 : g.terms.length ≤ 8) {s : Int} (h : symOk g.terms.length g.nons.length s) : nameG g s = symName g s := by
  unfold nameG symName
  unfold symOk at h
  by_cases h1 : 100 ≤ s
  · rw [if_neg (by omega), if_neg (by omega), if_pos (by omega), if_pos h1]
  · rw [if_neg (by omega), if_pos (by omega), if_neg h1]

theorem row_part {g : Gr} (h8 : g.terms.length ≤ 8) : ∀ (r : List Int), (∀ s ∈ r, symOk g.terms.length g.nons.length s) → rowTxt g r = partTxt g r
  | [], _ => rfl
  | s :: r, h => by
    have h1 := name_sym h8 (h s List.mem_cons_self)
    have h2 := row_part h8 r (fun x hx => h x (List.mem_cons_of_mem _ hx))
    unfold rowTxt partTxt at *
    rw [List.flatMap_cons, List.flatMap_cons, h1, h2]

theorem parts_cons (g : Gr) : ∀ (r : List Int) (l : List (List Int)), partsTxt g (r :: l) = partTxt g r ++ l.flatMap fun q => 32 :: 124 :: partTxt g q
  | r, [] => by simp [partsTxt]
  | r, q :: l => by rw [partsTxt, parts_cons g q l, List.flatMap_cons]; simp

theorem mid_false {g : Gr} (h8 : g.terms.length ≤ 8) (i : Nat) : ∀ (l : List (Int × List Int)), (∀ p ∈ l, ∀ s ∈ p.2, symOk g.terms.length g.nons.length s) →
    midF g i l false = ((l.filter fun p => p.1 == ((100 + i : Nat) : Int)).map (·.2)).flatMap fun q => 32 :: 124 :: partTxt g q
  | [], _ => rfl
  | p :: l, h => by
    have ih := mid_false h8 i l (fun q hq => h q (List.mem_cons_of_mem _ hq))
    unfold midF
    by_cases hp : p.1 = ((100 + i : Nat) : Int)
    · rw [if_pos hp, List.filter_cons_of_pos (by simp only [beq_iff_eq]; exact hp), List.map_cons, List.flatMap_cons, ih, row_part h8 _ (h p List.mem_cons_self)]
      simp [sepT]
    · rw [if_neg hp, List.filter_cons_of_neg (by simp only [beq_iff_eq]; exact hp), ih]

theorem mid_true {g : Gr} (h8 : g.terms.length ≤ 8) (i : Nat) : ∀ (l : List (Int × List Int)), (∀ p ∈ l, ∀ s ∈ p.2, symOk g.terms.length g.nons.length s) → ((l.filter fun p => p.1 == ((100 + i : Nat) : Int)).map (·.2)) ≠ [] →
    midF g i l true = 58 :: partsTxt g ((l.filter fun p => p.1 == ((100 + i : Nat) : Int)).map (·.2))
  | [], _, hne => by simp at hne
  | p :: l, h, hne => by
    have h' : ∀ q ∈ l, ∀ s ∈ q.2, symOk g.terms.length g.nons.length s := fun q hq => h q (List.mem_cons_of_mem _ hq)
    unfold midF
    by_cases hp : p.1 = ((100 + i : Nat) : Int)
    · rw [if_pos hp, List.filter_cons_of_pos (by simp only [beq_iff_eq]; exact hp), List.map_cons, parts_cons, mid_false h8 i l h', row_part h8 _ (h p List.mem_cons_self)]
      simp [sepT]
    · rw [List.filter_cons_of_neg (by simp only [beq_iff_eq]; exact hp)] at hne ⊢
      rw [if_neg hp]
      exact mid_true h8 i l h' hne

theorem wr_lines {g : Gr} (h : CheckG g) : ∀ (ns : List (List UInt8)) (i : Nat), i + ns.length = g.nons.length → wrF g ns i = linesTxt g ns ((List.range' i ns.length).map (partsOf g))
  | [], i, _ => by simp [wrF, linesTxt]
  | n :: ns, i, hi => by
    simp only [List.length_cons] at hi
    have hne : ((g.prods.filter fun p => p.1 == ((100 + i : Nat) : Int)).map (·.2)) ≠ [] := by
      obtain ⟨p, hp, he⟩ := h.some_ i (by omega)
      intro e
      have : p.2 ∈ ((g.prods.filter fun p => p.1 == ((100 + i : Nat) : Int)).map (·.2)) := List.mem_map_of_mem (List.mem_filter.2 ⟨hp, by simp only [beq_iff_eq]; exact he⟩)
      rw [e] at this
      cases this
    unfold wrF
    rw [List.length_cons, List.range'_succ, List.map_cons, linesTxt, wr_lines h ns (i + 1) (by omega), mid_true h.t8 i g.prods (fun p hp => (h.pv p hp).2.2) hne]
    simp [partsOf]

theorem write_text {g : Gr} (h : CheckG g) : writeT g = textG g := by
  unfold writeT textG
  rw [wr_lines h g.nons 0 (by omega), List.range_eq_range']

/-! How long. -/
theorem kind_lenP {x : List UInt8} (h : kindOf x ≠ 0) : x.length ≤ 8 := by
  have := kind_name h
  cases x with
  | nil => simp
  | cons c t => unfold nameOk at this; simp at this; simp; omega

theorem name_len {g : Gr} (h : CheckG g) (s : Int) : (nameG g s).length ≤ 8 := by
  have one : ∀ (l : List (List UInt8)) (k : Nat), (∀ x ∈ l, kindOf x ≠ 0) → (l.getD k []).length ≤ 8 := by
    intro l k hl
    rw [List.getD_eq_getElem?_getD]
    cases hk : l[k]? with
    | none => simp
    | some x => exact kind_lenP (hl x (List.mem_of_getElem? hk))
  unfold nameG
  split
  · simp
  · split
    · exact one _ _ (fun x hx => by rw [h.tk x hx]; decide)
    · split
      · exact one _ _ (fun x hx => by rw [h.nk x hx]; decide)
      · simp

theorem rowt_len {g : Gr} (h : CheckG g) : ∀ r : List Int, (rowTxt g r).length ≤ 9 * r.length
  | [] => by simp [rowTxt]
  | s :: r => by
    have h1 := name_len h s
    have h2 := rowt_len h r
    unfold rowTxt at *
    rw [List.flatMap_cons, List.length_append]
    simp only [List.length_cons]
    omega

theorem mid_len {g : Gr} (h : CheckG g) (i : Nat) : ∀ (l : List (Int × List Int)) (f : Bool), (∀ p ∈ l, p.2.length ≤ 6) → (midF g i l f).length ≤ 56 * l.length
  | [], _, _ => by simp [midF]
  | p :: l, f, hp => by
    have h1 := rowt_len h p.2
    have h2 := hp p List.mem_cons_self
    have h3 := mid_len h i l false (fun q hq => hp q (List.mem_cons_of_mem _ hq))
    have h4 := mid_len h i l f (fun q hq => hp q (List.mem_cons_of_mem _ hq))
    have h5 : (sepT f).length ≤ 2 := by cases f <;> simp [sepT]
    unfold midF
    split
    · simp only [List.length_append, List.length_cons]; omega
    · simp only [List.length_cons]; omega

theorem wr_len {g : Gr} (h : CheckG g) : ∀ (ns : List (List UInt8)) (i : Nat), (∀ x ∈ ns, kindOf x = 1) → (wrF g ns i).length ≤ 1400 * ns.length
  | [], _, _ => by simp [wrF]
  | n :: ns, i, hn => by
    have h1 := kind_lenP (x := n) (by rw [hn n List.mem_cons_self]; decide)
    have h2 := mid_len h i g.prods true (fun p hp => (h.pv p hp).2.1)
    have h3 := h.p24
    have h4 := wr_len h ns (i + 1) (fun x hx => hn x (List.mem_cons_of_mem _ hx))
    unfold wrF
    simp only [List.length_append, List.length_cons]
    omega

theorem write_len {g : Gr} (h : CheckG g) : (writeT g).length ≤ 1000000 := by
  have h1 := wr_len h g.nons 0 h.nk
  have h2 := h.n8
  unfold writeT
  omega

end Go.Proofs.Ytjlohjkhnjemaaa
