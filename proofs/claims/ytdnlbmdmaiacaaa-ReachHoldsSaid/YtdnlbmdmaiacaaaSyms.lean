/- Symbols and their names: the document's own answers, walked. -/
import Derived.Test.YtdnlbmdmaiacaaaSameG
namespace Go.Proofs.Ytdnlbmdmaiacaaa
open Go.RowKit
open Doc

/-- A nonterminal of g; a symbol of g. -/
def nonB (g : Gr) (s : Int) : Bool := decide (100 ≤ s) && decide (s < 100 + (g.nons.length : Int))
def symB (g : Gr) (s : Int) : Bool := (decide (1 ≤ s) && decide (s ≤ (g.terms.length : Int))) || nonB g s

theorem nonIs_any (v : Value) (g : Gr) (s : Int) (w : World) (hg : GramAt w v g) (hl : g.nons.length ≤ 1000000) :
    Calls Try.prog 57 #[v, .int .i64 s] w fun e w' => e = .returned (.bool (nonB g s)) ∧ Below w.heap.size w w' := by
  obtain ⟨a1, a2, a3, c1, c2, c3, ls, rfl, hp, h1, h2, h3, h4, _⟩ := hg
  have hS : ∀ x, Below w.heap.size w (w.alloc x) := fun x => (Below.refl _ _).alloc (Nat.le_refl _) _
  have HS := Lib.hid hS
  clear hS h1 h2 h3 h4
  by_cases h100 : 100 ≤ s
  · go_enter Try.func57, Try.ntmps57
    go_wp2
    go_ret
    exact ⟨ret_bool (by unfold nonB; rw [decide_eq_true h100]; rfl), HS.out _⟩
  · go_enter Try.func57, Try.ntmps57
    go_wp2
    go_ret
    exact ⟨ret_bool (by unfold nonB; rw [decide_eq_false (by omega)]; rfl), HS.out _⟩

theorem is_any (v : Value) (g : Gr) (s : Int) (w : World) (hg : GramAt w v g) (hl : g.nons.length ≤ 1000000) :
    Calls Try.prog 58 #[v, .int .i64 s] w fun e w' => e = .returned (.bool (symB g s)) ∧ Below w.heap.size w w' := by
  have hg' := hg
  obtain ⟨a1, a2, a3, c1, c2, c3, ls, rfl, hp, h1, h2, h3, h4, _⟩ := hg
  have hS : ∀ x, Below w.heap.size w (w.alloc x) := fun x => (Below.refl _ _).alloc (Nat.le_refl _) _
  have HN := Lib.hid fun x => nonIs_any _ g s (w.alloc x) (hg'.below (hS x)) hl
  have HS := Lib.hid hS
  clear hS h1 h2 h3 h4 hg'
  by_cases hb : 1 ≤ s ∧ s ≤ (g.terms.length : Int)
  · obtain ⟨hb1, hb2⟩ := hb
    have hres := Lib.hid (show symB g s = true by unfold symB; rw [decide_eq_true hb1, decide_eq_true hb2]; rfl)
    go_enter Try.func58, Try.ntmps58
    go_wp2
    go_ret
    exact ⟨ret_bool hres.out.symm, HS.out _⟩
  · have hres := Lib.hid (show symB g s = nonB g s by
      unfold symB
      rcases Decidable.not_and_iff_or_not.1 hb with h | h
      · rw [decide_eq_false h]; simp
      · rw [decide_eq_false h]; simp)
    have hor : s < 1 ∨ (1 ≤ s ∧ (g.terms.length : Int) < s) := by omega
    clear hb
    rcases hor with h | ⟨h, h'⟩
    all_goals
      go_enter Try.func58, Try.ntmps58
      go_wp2_with (go_at_call 57; refine (HN.out _).mono ?_; rintro e w2 ⟨rfl, hb2⟩)
      go_ret
      exact ⟨ret_bool (by first | exact hres.out.symm | (rw [hres.out, decide_eq_false (by omega)]; rfl)), (HS.out _).trans (hb2.mono (HS.out _).size)⟩

/-- A symbol's name, whatever the number. -/
def nameG (g : Gr) (s : Int) : List UInt8 :=
  if s = 0 then [36] else if 1 ≤ s ∧ s ≤ (g.terms.length : Int) then g.terms.getD (s - 1).toNat [] else if 100 ≤ s ∧ s < 100 + (g.nons.length : Int) then g.nons.getD (s - 100).toNat [] else []

theorem symName_any (v : Value) (g : Gr) (s : Int) (w : World) (hg : GramAt w v g) (hl : g.nons.length ≤ 1000000) (hl2 : g.terms.length ≤ 1000000) :
    Calls Try.prog 27 #[v, .int .i64 s] w fun e w' => e = .returned (.string ⟨(nameG g s).toArray⟩) ∧ Below w.heap.size w w' := by
  have hg' := hg
  obtain ⟨a1, a2, a3, c1, c2, c3, ls, rfl, hp, h1, h2, h3, h4, _⟩ := hg
  have hS : ∀ x, Below w.heap.size w (w.alloc x) := fun x => (Below.refl _ _).alloc (Nat.le_refl _) _
  have HN := Lib.hid fun x => nonIs_any _ g s (w.alloc x) (hg'.below (hS x)) hl
  have H1 := Lib.hid fun x => h1.below (hS x)
  have H2 := Lib.hid fun x => h2.below (hS x)
  have HS := Lib.hid hS
  by_cases h0 : s = 0
  · subst h0
    clear hS h1 h2 h3 h4 hg'
    go_enter Try.func27, Try.ntmps27
    go_wp2
    go_ret
    exact ⟨rfl, HS.out _⟩
  · have h0b : (s == 0) = false := by simpa using h0
    by_cases ht : 1 ≤ s ∧ s ≤ (g.terms.length : Int)
    · have hk : (s - 1).toNat < g.terms.length := by omega
      have hres := Lib.hid (show nameG g s = g.terms[(s - 1).toNat] by
        unfold nameG; rw [if_neg h0, if_pos ht, List.getD_eq_getElem?_getD, List.getElem?_eq_getElem hk]; rfl)
      obtain ⟨b, off, rfl, hb, hc⟩ := h1.get (by unfold strs; intro e; rw [List.map_eq_nil_iff] at e; rw [e] at hk; simp at hk)
      have hcell : ∀ x, (w.alloc x).cell? ⟨b, off + (s - 1).toNat, none⟩ = some (.string ⟨(g.terms[(s - 1).toNat]).toArray⟩) := fun x => ((hS x).cell (p := ⟨b, off + (s - 1).toNat, none⟩) hb).trans (hc _ _ (strs_at (List.getElem?_eq_getElem hk)))
      obtain ⟨t1, t2⟩ := ht
      have i1 : (0 : Int) ≤ s - 1 := by omega
      have i2 : s - 1 < (g.terms.length : Int) := by omega
      generalize hx : g.terms[(s - 1).toNat] = x at *
      generalize hkk : (s - 1).toNat = kk at *
      clear hS h1 h2 h3 h4 hg' hc
      go_enter Try.func27, Try.ntmps27
      go_wp2
      go_ret
      exact ⟨by rw [hres.out]; rfl, HS.out _⟩
    · have hor : s < 1 ∨ (1 ≤ s ∧ (g.terms.length : Int) < s) := by omega
      by_cases hn : 100 ≤ s ∧ s < 100 + (g.nons.length : Int)
      · have hk : (s - 100).toNat < g.nons.length := by omega
        have hres := Lib.hid (show nameG g s = g.nons[(s - 100).toNat] by
          unfold nameG; rw [if_neg h0, if_neg ht, if_pos hn, List.getD_eq_getElem?_getD, List.getElem?_eq_getElem hk]; rfl)
        obtain ⟨b, off, rfl, hb, hc⟩ := h2.get (by unfold strs; intro e; rw [List.map_eq_nil_iff] at e; rw [e] at hk; simp at hk)
        have hbool : nonB g s = true := by unfold nonB; rw [decide_eq_true hn.1, decide_eq_true hn.2]; rfl
        have hcw : w.cell? ⟨b, off + (s - 100).toNat, none⟩ = some (.string ⟨(g.nons[(s - 100).toNat]).toArray⟩) := hc _ _ (strs_at (List.getElem?_eq_getElem hk))
        obtain ⟨t1, t2⟩ := hn
        have i1 : (0 : Int) ≤ s - 100 := by omega
        have i2 : s - 100 < (g.nons.length : Int) := by omega
        generalize hx : g.nons[(s - 100).toNat] = x at *
        generalize hkk : (s - 100).toNat = kk at *
        clear h1 h2 h3 h4 hg' hc
        rcases hor with h | ⟨h, h'⟩
        · omega
        · clear ht
          go_enter Try.func27, Try.ntmps27
          go_wp2_with (go_at_call 57; refine (HN.out _).mono ?_; rintro e w2 ⟨rfl, hb2⟩; rw [hbool]; have hc2 := ((hS _).trans (hb2.mono (hS _).size) |>.cell (p := ⟨b, off + kk, none⟩) hb).trans hcw; have hbx := (hb2.cell (p := ⟨w.heap.size, 1, none⟩) (by simp)).trans (by go_simp : _ = some (.slice (some ⟨b, off, none⟩) g.nons.length c2)))
          go_ret
          exact ⟨by rw [hres.out]; rfl, (hS _).trans (hb2.mono (hS _).size)⟩
      · have hres := Lib.hid (show nameG g s = [] by unfold nameG; rw [if_neg h0, if_neg ht, if_neg hn])
        have hbool : nonB g s = false := by
          unfold nonB
          rcases Decidable.not_and_iff_or_not.1 hn with h | h
          · rw [decide_eq_false h]; rfl
          · rw [decide_eq_false h]; simp
        clear h1 h2 h3 h4 hg' ht hn
        rcases hor with h | ⟨h, h'⟩
        all_goals
          go_enter Try.func27, Try.ntmps27
          go_wp2_with (go_at_call 57; refine (HN.out _).mono ?_; rintro e w2 ⟨rfl, hb2⟩; rw [hbool])
          go_ret
          exact ⟨by rw [hres.out]; rfl, (hS _).trans (hb2.mono (hS _).size)⟩

theorem idx_at' {l : List (List UInt8)} {s : List UInt8} {k : Nat} (h : idx l s = some k) : l[k]? = some s := by
  unfold idx at h
  obtain ⟨hk, h1, _⟩ := List.findIdx?_eq_some_iff_getElem.1 h
  rw [List.getElem?_eq_getElem hk]
  simpa using h1

/-- Of a name the symbol. -/
def findG (g : Gr) (n : List UInt8) : Int × Bool :=
  if n = [36] then (0, true) else match idx g.terms n with
  | some k => ((k : Int) + 1, true)
  | none => match idx g.nons n with
    | some k => (100 + (k : Int), true)
    | none => (0, false)

theorem findSym_any (v : Value) (g : Gr) (n : List UInt8) (w : World) (hg : GramAt w v g) (hl : g.nons.length ≤ 1000000) (hl2 : g.terms.length ≤ 1000000) :
    Calls Try.prog 29 #[v, .string ⟨n.toArray⟩] w fun e w' => e = .returned (.tuple #[.int .i64 (findG g n).1, .bool (findG g n).2]) ∧ Below w.heap.size w w' := by
  obtain ⟨a1, a2, a3, c1, c2, c3, ls, rfl, hp, h1, h2, h3, h4, _⟩ := hg
  have hS : ∀ x, Below w.heap.size w (w.alloc x) := fun x => (Below.refl _ _).alloc (Nat.le_refl _) _
  have F1 := Lib.hid fun x => find_any a1 c1 g.terms n (w.alloc x) (h1.below (hS x)) hl2
  have F2 := Lib.hid fun x => find_any a2 c2 g.nons n (w.alloc x) (h2.below (hS x)) hl
  clear h1 h2 h3 h4
  by_cases h36 : n = [36]
  · subst h36
    go_enter Try.func29, Try.ntmps29
    go_wp2
    go_ret2
    exact ⟨rfl, hS _⟩
  · have hb : (n == [36]) = false := by simpa using h36
    cases hi : idx g.terms n with
    | some k =>
      have hk := (List.getElem?_eq_some_iff.1 (idx_at' hi)).1
      have hres := Lib.hid (show findG g n = ((k : Int) + 1, true) by unfold findG; rw [if_neg h36, hi])
      rw [hi] at F1
      simp only [oint] at F1
      go_enter Try.func29, Try.ntmps29
      go_wp2_with (go_at_call 63; refine (F1.out _).mono ?_; rintro e w2 ⟨rfl, rfl⟩)
      go_ret2
      exact ⟨by rw [hres.out]; rfl, hS _⟩
    | none =>
      rw [hi] at F1
      simp only [oint] at F1
      cases hj : idx g.nons n with
      | some k =>
        have hk := (List.getElem?_eq_some_iff.1 (idx_at' hj)).1
        have hres := Lib.hid (show findG g n = (100 + (k : Int), true) by unfold findG; rw [if_neg h36, hi, hj])
        rw [hj] at F2
        simp only [oint] at F2
        go_enter Try.func29, Try.ntmps29
        go_wp2_with (first
          | (go_at_call 63; with_reducible refine (F1.out _).mono ?_; rintro e w2 ⟨rfl, rfl⟩)
          | (go_at_call 63; with_reducible refine (F2.out _).mono ?_; rintro e w2 ⟨rfl, rfl⟩))
        go_ret2
        exact ⟨by rw [hres.out]; rfl, hS _⟩
      | none =>
        have hres := Lib.hid (show findG g n = (0, false) by unfold findG; rw [if_neg h36, hi, hj])
        rw [hj] at F2
        simp only [oint] at F2
        go_enter Try.func29, Try.ntmps29
        go_wp2_with (first
          | (go_at_call 63; with_reducible refine (F1.out _).mono ?_; rintro e w2 ⟨rfl, rfl⟩)
          | (go_at_call 63; with_reducible refine (F2.out _).mono ?_; rintro e w2 ⟨rfl, rfl⟩))
        go_ret2
        exact ⟨by rw [hres.out]; rfl, hS _⟩

end Go.Proofs.Ytdnlbmdmaiacaaa
