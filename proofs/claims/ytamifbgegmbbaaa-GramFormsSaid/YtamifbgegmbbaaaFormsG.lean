/- GramForms: the walk. -/
import Derived.Test.YtamifbgegmbbaaaPrintG
namespace Go.Proofs.Ytamifbgegmbbaaa
open Go.RowKit
open Doc

def want : Gr := ⟨[[98], [99], [97]], [[83], [65]], [(100, [101, 1]), (100, [2]), (101, []), (101, [3, 100, 3])]⟩
def t0 : List UInt8 := [83, 58, 32, 65, 32, 98, 32, 124, 32, 99, 10, 65, 58, 32, 124, 97, 32, 83, 32, 97, 10]
def t1 : List UInt8 := [35, 32, 111, 110, 101, 10, 83, 32, 32, 58, 65, 32, 98, 124, 99, 35, 10, 10, 65, 58, 124, 97, 32, 83, 32, 97]
def t2 : List UInt8 := [83, 58, 32, 65, 32, 32, 98, 32, 124, 32, 99, 10, 32, 32, 65, 58, 124, 97, 32, 32, 83, 32, 32, 97, 10, 10]
theorem t0_want : parse t0 = .ok want := by decide +kernel
theorem t1_want : parse t1 = .ok want := by decide +kernel
theorem t2_want : parse t2 = .ok want := by decide +kernel
theorem want_text : printS want = [83, 58, 32, 65, 32, 98, 32, 124, 32, 99, 10, 65, 58, 32, 124, 32, 97, 32, 83, 32, 97, 10] := by decide +kernel
theorem want_ok : printE want = 0 := by decide +kernel
theorem want_chk : CheckG want := (chk_iff want).1 (by decide +kernel)


theorem cells_k (w : World) (cs : Array Value) (T : TypeId) (n : Nat) (hn : w.heap.size = n) : Cells (w.alloc (.cells cs T)) (some ⟨n, 0, none⟩) cs.toList := hn ▸ cells_new w cs T
theorem bel2 (w : World) (a b : Obj) : Below w.heap.size w ((w.alloc a).alloc b) := ((Below.refl _ _).alloc (Nat.le_refl _) a).alloc (by simp) b
theorem bel1 (w : World) (a : Obj) : Below w.heap.size w (w.alloc a) := (Below.refl _ _).alloc (Nat.le_refl _) a
theorem bel3 (w : World) (a b c : Obj) : Below w.heap.size w (((w.alloc a).alloc b).alloc c) := (bel2 w a b).alloc (bel2 w a b).size c
theorem bel4 (w : World) (a b c d : Obj) : Below w.heap.size w ((((w.alloc a).alloc b).alloc c).alloc d) := (bel3 w a b c).alloc (bel3 w a b c).size d
theorem bel5 (w : World) (a b c d e : Obj) : Below w.heap.size w (((((w.alloc a).alloc b).alloc c).alloc d).alloc e) := (bel4 w a b c d).alloc (bel4 w a b c d).size e
theorem bel6 (w : World) (a b c d e f : Obj) : Below w.heap.size w ((((((w.alloc a).alloc b).alloc c).alloc d).alloc e).alloc f) := (bel5 w a b c d e).alloc (bel5 w a b c d e).size f

theorem want_after {w w2 : World} {o0 o7 : Obj} {T1 T2 T3 T4 T5 T6 : TypeId} (hb : Below ((((((((w.alloc o0).alloc (.cells #[.string ⟨#[98]⟩, .string ⟨#[99]⟩, .string ⟨#[97]⟩] T1)).alloc (.cells #[.string ⟨#[83]⟩, .string ⟨#[65]⟩] T2)).alloc (.cells #[.int .i64 101, .int .i64 1] T3)).alloc (.cells #[.int .i64 2] T4)).alloc (.cells #[.int .i64 3, .int .i64 100, .int .i64 3] T5)).alloc (.cells #[.int .i64 100, .slice (some ⟨w.heap.size + 1 + 1 + 1, 0, none⟩) 2 2, .int .i64 100, .slice (some ⟨w.heap.size + 1 + 1 + 1 + 1, 0, none⟩) 1 1, .int .i64 101, .slice none 0 0, .int .i64 101, .slice (some ⟨w.heap.size + 1 + 1 + 1 + 1 + 1, 0, none⟩) 3 3] T6)).alloc o7).heap.size ((((((((w.alloc o0).alloc (.cells #[.string ⟨#[98]⟩, .string ⟨#[99]⟩, .string ⟨#[97]⟩] T1)).alloc (.cells #[.string ⟨#[83]⟩, .string ⟨#[65]⟩] T2)).alloc (.cells #[.int .i64 101, .int .i64 1] T3)).alloc (.cells #[.int .i64 2] T4)).alloc (.cells #[.int .i64 3, .int .i64 100, .int .i64 3] T5)).alloc (.cells #[.int .i64 100, .slice (some ⟨w.heap.size + 1 + 1 + 1, 0, none⟩) 2 2, .int .i64 100, .slice (some ⟨w.heap.size + 1 + 1 + 1 + 1, 0, none⟩) 1 1, .int .i64 101, .slice none 0 0, .int .i64 101, .slice (some ⟨w.heap.size + 1 + 1 + 1 + 1 + 1, 0, none⟩) 3 3] T6)).alloc o7) w2) :
    GramAt w2 (.agg #[.slice (some ⟨w.heap.size + 1, 0, none⟩) 3 3, .slice (some ⟨w.heap.size + 1 + 1, 0, none⟩) 2 2, .slice (some ⟨w.heap.size + 1 + 1 + 1 + 1 + 1 + 1, 0, none⟩) 4 4]) want ∧ w2.heap[w.heap.size + 1 + 1 + 1 + 1 + 1 + 1 + 1]? = some o7 ∧ Below w.heap.size w w2 ∧ w.heap.size + 8 ≤ w2.heap.size := by
  have hs : ((((((((w.alloc o0).alloc (.cells #[.string ⟨#[98]⟩, .string ⟨#[99]⟩, .string ⟨#[97]⟩] T1)).alloc (.cells #[.string ⟨#[83]⟩, .string ⟨#[65]⟩] T2)).alloc (.cells #[.int .i64 101, .int .i64 1] T3)).alloc (.cells #[.int .i64 2] T4)).alloc (.cells #[.int .i64 3, .int .i64 100, .int .i64 3] T5)).alloc (.cells #[.int .i64 100, .slice (some ⟨w.heap.size + 1 + 1 + 1, 0, none⟩) 2 2, .int .i64 100, .slice (some ⟨w.heap.size + 1 + 1 + 1 + 1, 0, none⟩) 1 1, .int .i64 101, .slice none 0 0, .int .i64 101, .slice (some ⟨w.heap.size + 1 + 1 + 1 + 1 + 1, 0, none⟩) 3 3] T6)).alloc o7).heap.size = w.heap.size + 8 := by simp
  refine ⟨GramAt.below ?_ hb, ?_, ?_, ?_⟩
  · have C1 : Cells ((((((((w.alloc o0).alloc (.cells #[.string ⟨#[98]⟩, .string ⟨#[99]⟩, .string ⟨#[97]⟩] T1)).alloc (.cells #[.string ⟨#[83]⟩, .string ⟨#[65]⟩] T2)).alloc (.cells #[.int .i64 101, .int .i64 1] T3)).alloc (.cells #[.int .i64 2] T4)).alloc (.cells #[.int .i64 3, .int .i64 100, .int .i64 3] T5)).alloc (.cells #[.int .i64 100, .slice (some ⟨w.heap.size + 1 + 1 + 1, 0, none⟩) 2 2, .int .i64 100, .slice (some ⟨w.heap.size + 1 + 1 + 1 + 1, 0, none⟩) 1 1, .int .i64 101, .slice none 0 0, .int .i64 101, .slice (some ⟨w.heap.size + 1 + 1 + 1 + 1 + 1, 0, none⟩) 3 3] T6)).alloc o7) (some ⟨w.heap.size + 1, 0, none⟩) (strs want.terms) := (cells_k (w.alloc o0) _ T1 (w.heap.size + 1) (by simp)).below (bel6 _ _ _ _ _ _ o7)
    have C2 : Cells ((((((((w.alloc o0).alloc (.cells #[.string ⟨#[98]⟩, .string ⟨#[99]⟩, .string ⟨#[97]⟩] T1)).alloc (.cells #[.string ⟨#[83]⟩, .string ⟨#[65]⟩] T2)).alloc (.cells #[.int .i64 101, .int .i64 1] T3)).alloc (.cells #[.int .i64 2] T4)).alloc (.cells #[.int .i64 3, .int .i64 100, .int .i64 3] T5)).alloc (.cells #[.int .i64 100, .slice (some ⟨w.heap.size + 1 + 1 + 1, 0, none⟩) 2 2, .int .i64 100, .slice (some ⟨w.heap.size + 1 + 1 + 1 + 1, 0, none⟩) 1 1, .int .i64 101, .slice none 0 0, .int .i64 101, .slice (some ⟨w.heap.size + 1 + 1 + 1 + 1 + 1, 0, none⟩) 3 3] T6)).alloc o7) (some ⟨w.heap.size + 1 + 1, 0, none⟩) (strs want.nons) := (cells_k ((w.alloc o0).alloc (.cells #[.string ⟨#[98]⟩, .string ⟨#[99]⟩, .string ⟨#[97]⟩] T1)) _ T2 (w.heap.size + 1 + 1) (by simp)).below (bel5 _ _ _ _ _ o7)
    have C3 : Cells ((((((((w.alloc o0).alloc (.cells #[.string ⟨#[98]⟩, .string ⟨#[99]⟩, .string ⟨#[97]⟩] T1)).alloc (.cells #[.string ⟨#[83]⟩, .string ⟨#[65]⟩] T2)).alloc (.cells #[.int .i64 101, .int .i64 1] T3)).alloc (.cells #[.int .i64 2] T4)).alloc (.cells #[.int .i64 3, .int .i64 100, .int .i64 3] T5)).alloc (.cells #[.int .i64 100, .slice (some ⟨w.heap.size + 1 + 1 + 1, 0, none⟩) 2 2, .int .i64 100, .slice (some ⟨w.heap.size + 1 + 1 + 1 + 1, 0, none⟩) 1 1, .int .i64 101, .slice none 0 0, .int .i64 101, .slice (some ⟨w.heap.size + 1 + 1 + 1 + 1 + 1, 0, none⟩) 3 3] T6)).alloc o7) (some ⟨w.heap.size + 1 + 1 + 1, 0, none⟩) (nums [101, 1]) := (cells_k (((w.alloc o0).alloc (.cells #[.string ⟨#[98]⟩, .string ⟨#[99]⟩, .string ⟨#[97]⟩] T1)).alloc (.cells #[.string ⟨#[83]⟩, .string ⟨#[65]⟩] T2)) _ T3 (w.heap.size + 1 + 1 + 1) (by simp)).below (bel4 _ _ _ _ o7)
    have C4 : Cells ((((((((w.alloc o0).alloc (.cells #[.string ⟨#[98]⟩, .string ⟨#[99]⟩, .string ⟨#[97]⟩] T1)).alloc (.cells #[.string ⟨#[83]⟩, .string ⟨#[65]⟩] T2)).alloc (.cells #[.int .i64 101, .int .i64 1] T3)).alloc (.cells #[.int .i64 2] T4)).alloc (.cells #[.int .i64 3, .int .i64 100, .int .i64 3] T5)).alloc (.cells #[.int .i64 100, .slice (some ⟨w.heap.size + 1 + 1 + 1, 0, none⟩) 2 2, .int .i64 100, .slice (some ⟨w.heap.size + 1 + 1 + 1 + 1, 0, none⟩) 1 1, .int .i64 101, .slice none 0 0, .int .i64 101, .slice (some ⟨w.heap.size + 1 + 1 + 1 + 1 + 1, 0, none⟩) 3 3] T6)).alloc o7) (some ⟨w.heap.size + 1 + 1 + 1 + 1, 0, none⟩) (nums [2]) := (cells_k ((((w.alloc o0).alloc (.cells #[.string ⟨#[98]⟩, .string ⟨#[99]⟩, .string ⟨#[97]⟩] T1)).alloc (.cells #[.string ⟨#[83]⟩, .string ⟨#[65]⟩] T2)).alloc (.cells #[.int .i64 101, .int .i64 1] T3)) _ T4 (w.heap.size + 1 + 1 + 1 + 1) (by simp)).below (bel3 _ _ _ o7)
    have C5 : Cells ((((((((w.alloc o0).alloc (.cells #[.string ⟨#[98]⟩, .string ⟨#[99]⟩, .string ⟨#[97]⟩] T1)).alloc (.cells #[.string ⟨#[83]⟩, .string ⟨#[65]⟩] T2)).alloc (.cells #[.int .i64 101, .int .i64 1] T3)).alloc (.cells #[.int .i64 2] T4)).alloc (.cells #[.int .i64 3, .int .i64 100, .int .i64 3] T5)).alloc (.cells #[.int .i64 100, .slice (some ⟨w.heap.size + 1 + 1 + 1, 0, none⟩) 2 2, .int .i64 100, .slice (some ⟨w.heap.size + 1 + 1 + 1 + 1, 0, none⟩) 1 1, .int .i64 101, .slice none 0 0, .int .i64 101, .slice (some ⟨w.heap.size + 1 + 1 + 1 + 1 + 1, 0, none⟩) 3 3] T6)).alloc o7) (some ⟨w.heap.size + 1 + 1 + 1 + 1 + 1, 0, none⟩) (nums [3, 100, 3]) := (cells_k (((((w.alloc o0).alloc (.cells #[.string ⟨#[98]⟩, .string ⟨#[99]⟩, .string ⟨#[97]⟩] T1)).alloc (.cells #[.string ⟨#[83]⟩, .string ⟨#[65]⟩] T2)).alloc (.cells #[.int .i64 101, .int .i64 1] T3)).alloc (.cells #[.int .i64 2] T4)) _ T5 (w.heap.size + 1 + 1 + 1 + 1 + 1) (by simp)).below (bel2 _ _ o7)
    have C6 : Cells ((((((((w.alloc o0).alloc (.cells #[.string ⟨#[98]⟩, .string ⟨#[99]⟩, .string ⟨#[97]⟩] T1)).alloc (.cells #[.string ⟨#[83]⟩, .string ⟨#[65]⟩] T2)).alloc (.cells #[.int .i64 101, .int .i64 1] T3)).alloc (.cells #[.int .i64 2] T4)).alloc (.cells #[.int .i64 3, .int .i64 100, .int .i64 3] T5)).alloc (.cells #[.int .i64 100, .slice (some ⟨w.heap.size + 1 + 1 + 1, 0, none⟩) 2 2, .int .i64 100, .slice (some ⟨w.heap.size + 1 + 1 + 1 + 1, 0, none⟩) 1 1, .int .i64 101, .slice none 0 0, .int .i64 101, .slice (some ⟨w.heap.size + 1 + 1 + 1 + 1 + 1, 0, none⟩) 3 3] T6)).alloc o7) (some ⟨w.heap.size + 1 + 1 + 1 + 1 + 1 + 1, 0, none⟩) (lays [⟨100, [101, 1], some ⟨w.heap.size + 1 + 1 + 1, 0, none⟩, 2⟩, ⟨100, [2], some ⟨w.heap.size + 1 + 1 + 1 + 1, 0, none⟩, 1⟩, ⟨101, [], none, 0⟩, ⟨101, [3, 100, 3], some ⟨w.heap.size + 1 + 1 + 1 + 1 + 1, 0, none⟩, 3⟩]) := (cells_k ((((((w.alloc o0).alloc (.cells #[.string ⟨#[98]⟩, .string ⟨#[99]⟩, .string ⟨#[97]⟩] T1)).alloc (.cells #[.string ⟨#[83]⟩, .string ⟨#[65]⟩] T2)).alloc (.cells #[.int .i64 101, .int .i64 1] T3)).alloc (.cells #[.int .i64 2] T4)).alloc (.cells #[.int .i64 3, .int .i64 100, .int .i64 3] T5)) _ T6 (w.heap.size + 1 + 1 + 1 + 1 + 1 + 1) (by simp)).below (bel1 _ o7)
    exact ⟨_, _, _, 3, 2, 4, [⟨100, [101, 1], some ⟨w.heap.size + 1 + 1 + 1, 0, none⟩, 2⟩, ⟨100, [2], some ⟨w.heap.size + 1 + 1 + 1 + 1, 0, none⟩, 1⟩, ⟨101, [], none, 0⟩, ⟨101, [3, 100, 3], some ⟨w.heap.size + 1 + 1 + 1 + 1 + 1, 0, none⟩, 3⟩], rfl, rfl, C1, C2, C6, by
      intro p hp
      simp only [List.mem_cons, List.not_mem_nil, or_false] at hp
      rcases hp with rfl | rfl | rfl | rfl
      · exact C3
      · exact C4
      · exact .inl rfl
      · exact C5, Nat.le_refl 3, Nat.le_refl 2, Nat.le_refl 4⟩
  · refine (hb.block _ (by rw [hs]; omega)).trans ?_
    have h := heap_alloc_new (((((((w.alloc o0).alloc (.cells #[.string ⟨#[98]⟩, .string ⟨#[99]⟩, .string ⟨#[97]⟩] T1)).alloc (.cells #[.string ⟨#[83]⟩, .string ⟨#[65]⟩] T2)).alloc (.cells #[.int .i64 101, .int .i64 1] T3)).alloc (.cells #[.int .i64 2] T4)).alloc (.cells #[.int .i64 3, .int .i64 100, .int .i64 3] T5)).alloc (.cells #[.int .i64 100, .slice (some ⟨w.heap.size + 1 + 1 + 1, 0, none⟩) 2 2, .int .i64 100, .slice (some ⟨w.heap.size + 1 + 1 + 1 + 1, 0, none⟩) 1 1, .int .i64 101, .slice none 0 0, .int .i64 101, .slice (some ⟨w.heap.size + 1 + 1 + 1 + 1 + 1, 0, none⟩) 3 3] T6)) o7
    rw [show (((((((w.alloc o0).alloc (.cells #[.string ⟨#[98]⟩, .string ⟨#[99]⟩, .string ⟨#[97]⟩] T1)).alloc (.cells #[.string ⟨#[83]⟩, .string ⟨#[65]⟩] T2)).alloc (.cells #[.int .i64 101, .int .i64 1] T3)).alloc (.cells #[.int .i64 2] T4)).alloc (.cells #[.int .i64 3, .int .i64 100, .int .i64 3] T5)).alloc (.cells #[.int .i64 100, .slice (some ⟨w.heap.size + 1 + 1 + 1, 0, none⟩) 2 2, .int .i64 100, .slice (some ⟨w.heap.size + 1 + 1 + 1 + 1, 0, none⟩) 1 1, .int .i64 101, .slice none 0 0, .int .i64 101, .slice (some ⟨w.heap.size + 1 + 1 + 1 + 1 + 1, 0, none⟩) 3 3] T6)).heap.size = w.heap.size + 1 + 1 + 1 + 1 + 1 + 1 + 1 by simp] at h
    exact h
  · have h6 := bel6 (w.alloc o0) (.cells #[.string ⟨#[98]⟩, .string ⟨#[99]⟩, .string ⟨#[97]⟩] T1) (.cells #[.string ⟨#[83]⟩, .string ⟨#[65]⟩] T2) (.cells #[.int .i64 101, .int .i64 1] T3) (.cells #[.int .i64 2] T4) (.cells #[.int .i64 3, .int .i64 100, .int .i64 3] T5) (.cells #[.int .i64 100, .slice (some ⟨w.heap.size + 1 + 1 + 1, 0, none⟩) 2 2, .int .i64 100, .slice (some ⟨w.heap.size + 1 + 1 + 1 + 1, 0, none⟩) 1 1, .int .i64 101, .slice none 0 0, .int .i64 101, .slice (some ⟨w.heap.size + 1 + 1 + 1 + 1 + 1, 0, none⟩) 3 3] T6)
    have h7 := (bel1 w o0).trans (h6.mono (bel1 w o0).size)
    have h8 := h7.alloc h7.size o7
    exact h8.trans (hb.mono h8.size)
  · exact hs ▸ hb.size

theorem want_shape {B : Nat} {w : World} {v : Value} (h : GramFrom B w v want) : ∃ a1 a2 a3 c1 c2 c3, v = .agg #[.slice a1 3 c1, .slice a2 2 c2, .slice a3 4 c3] := by
  obtain ⟨a1, a2, a3, c1, c2, c3, ls, rfl, hp, _⟩ := h.at_
  have hl : ls.length = 4 := by have := congrArg List.length hp; simpa [want] using this
  exact ⟨a1, a2, a3, c1, c2, c3, by rw [hl]; rfl⟩

theorem want_fits : Fits want := ⟨by decide, by decide, by decide, by decide⟩
theorem want_small : SmallG want := by unfold SmallG maxI; decide
theorem want_terms : ∀ x ∈ want.terms, x.length ≤ 1000000 := by decide
theorem want_nons : ∀ x ∈ want.nons, x.length ≤ 1000000 := by decide

/-- What holds of a world behind the call of Parse. -/
def St (w wk : World) (bx by_ : Nat) (V v : Value) (cx cy : Array Value) (T : TypeId) : Prop :=
  Below w.heap.size w wk ∧ GramAt wk V want ∧ GramAt wk v want ∧ wk.heap[bx]? = some (.cells cx T) ∧ wk.heap[by_]? = some (.cells cy T)
theorem lt_of_heap {w : World} {b : Nat} {o : Obj} (h : w.heap[b]? = some o) : b < w.heap.size := by
  rcases Nat.lt_or_ge b w.heap.size with h' | h'
  · exact h'
  · rw [Array.getElem?_eq_none h'] at h; cases h
theorem St.step {w wk wk' : World} {bx by_ : Nat} {V v : Value} {cx cy : Array Value} {T : TypeId} (h : St w wk bx by_ V v cx cy T) (hb : Below wk.heap.size wk wk') : St w wk' bx by_ V v cx cy T := by
  obtain ⟨h1, h2, h3, h4, h5⟩ := h
  exact ⟨h1.trans (hb.mono h1.size), h2.below hb, h3.below hb, (hb.block _ (lt_of_heap h4)).trans h4, (hb.block _ (lt_of_heap h5)).trans h5⟩
theorem St.x {w wk : World} {bx by_ : Nat} {V v : Value} {cx cy : Array Value} {T : TypeId} (h : St w wk bx by_ V v cx cy T) {i : Nat} {u : Value} (hi : cx[i]? = some u) : wk.cell? ⟨bx, i, none⟩ = some u := (blk_cell h.2.2.2.1 hi).1
theorem St.y {w wk : World} {bx by_ : Nat} {V v : Value} {cx cy : Array Value} {T : TypeId} (h : St w wk bx by_ V v cx cy T) {i : Nat} {u : Value} (hi : cy[i]? = some u) : wk.cell? ⟨by_, i, none⟩ = some u := (blk_cell h.2.2.2.2 hi).1
theorem st_new {w w2 : World} {bx : Nat} {V v : Value} {cx cy : Array Value} {T : TypeId} (hw : GramAt w2 V want) (hx : w2.heap[bx]? = some (.cells cx T)) (hB : Below w.heap.size w w2) (hv : GramAt w2 v want) :
    St w (w2.alloc (.cells cy T)) bx w2.heap.size V v cx cy T :=
  ⟨hB.alloc hB.size _, hw.below (bel1 _ _), hv.below (bel1 _ _), ((bel1 _ _).block _ (lt_of_heap hx)).trans hx, heap_alloc_new _ _⟩

theorem want_A : findG want [65] = (101, true) := by decide +kernel
theorem want_c : findG want [99] = (2, true) := by decide +kernel
theorem want_B : findG want [66] = (0, false) := by decide +kernel
theorem want_3 : nameG want 3 = [97] := by decide +kernel
theorem want_0 : nameG want 0 = [36] := by decide +kernel
theorem want_4 : nameG want 4 = [] := by decide +kernel
theorem want_102 : nameG want 102 = [] := by decide +kernel
theorem want_same : decide (want = want) = true := decide_eq_true rfl

theorem St.V {w wk : World} {bx by_ : Nat} {V v : Value} {cx cy : Array Value} {T : TypeId} (h : St w wk bx by_ V v cx cy T) : GramAt wk V want := h.2.1
theorem St.v {w wk : World} {bx by_ : Nat} {V v : Value} {cx cy : Array Value} {T : TypeId} (h : St w wk bx by_ V v cx cy T) : GramAt wk v want := h.2.2.1

theorem find_A (v : Value) (W : World) (h : GramAt W v want) : Calls Try.prog 13 #[v, .string ⟨#[65]⟩] W fun e w' => e = .returned (.tuple #[.int .i64 101, .bool true]) ∧ Below W.heap.size W w' := by
  have h' := gfind_any v want [65] W h want_fits.2.1 want_fits.1
  rw [want_A] at h'
  exact h'
theorem find_c (v : Value) (W : World) (h : GramAt W v want) : Calls Try.prog 13 #[v, .string ⟨#[99]⟩] W fun e w' => e = .returned (.tuple #[.int .i64 2, .bool true]) ∧ Below W.heap.size W w' := by
  have h' := gfind_any v want [99] W h want_fits.2.1 want_fits.1
  rw [want_c] at h'
  exact h'
theorem find_B (v : Value) (W : World) (h : GramAt W v want) : Calls Try.prog 13 #[v, .string ⟨#[66]⟩] W fun e w' => e = .returned (.tuple #[.int .i64 0, .bool false]) ∧ Below W.heap.size W w' := by
  have h' := gfind_any v want [66] W h want_fits.2.1 want_fits.1
  rw [want_B] at h'
  exact h'
theorem name_3 (v : Value) (W : World) (h : GramAt W v want) : Calls Try.prog 15 #[v, .int .i64 3] W fun e w' => e = .returned (.string ⟨#[97]⟩) ∧ Below W.heap.size W w' := by
  have h' := gname_any v want 3 W h (by decide) want_terms want_nons
  rw [want_3] at h'
  exact h'
theorem name_0 (v : Value) (W : World) (h : GramAt W v want) : Calls Try.prog 15 #[v, .int .i64 0] W fun e w' => e = .returned (.string ⟨#[36]⟩) ∧ Below W.heap.size W w' := by
  have h' := gname_any v want 0 W h (by decide) want_terms want_nons
  rw [want_0] at h'
  exact h'
theorem name_4 (v : Value) (W : World) (h : GramAt W v want) : Calls Try.prog 15 #[v, .int .i64 4] W fun e w' => e = .returned (.string ⟨#[]⟩) ∧ Below W.heap.size W w' := by
  have h' := gname_any v want 4 W h (by decide) want_terms want_nons
  rw [want_4] at h'
  exact h'
theorem name_102 (v : Value) (W : World) (h : GramAt W v want) : Calls Try.prog 15 #[v, .int .i64 102] W fun e w' => e = .returned (.string ⟨#[]⟩) ∧ Below W.heap.size W w' := by
  have h' := gname_any v want 102 W h (by decide) want_terms want_nons
  rw [want_102] at h'
  exact h'
theorem same_w (v u : Value) (W : World) (h : GramAt W v want) (k : GramAt W u want) : Calls Try.prog 14 #[v, u] W fun e w' => e = .returned (.bool true) ∧ Below W.heap.size W w' := by
  have h' := same_any v u want want W h k want_fits want_fits
  rw [want_same] at h'
  exact h'
theorem print_w (v : Value) (W : World) (h : GramAt W v want) : Calls Try.prog 12 #[v] W fun e w' => e = .returned (.tuple #[.string ⟨#[83, 58, 32, 65, 32, 98, 32, 124, 32, 99, 10, 65, 58, 32, 124, 32, 97, 32, 83, 32, 97, 10]⟩, .int .i64 0]) ∧ Below W.heap.size W w' := by
  have h' := print_any v want W h want_fits want_small want_terms want_nons
  rw [want_text, want_ok] at h'
  exact h'

set_option maxRecDepth 100000 in
set_option maxHeartbeats 8000000 in
theorem forms_walk (n : Int) (w : World) : Calls Try.prog 3 #[.int .i64 n] w fun e w' => e = .returned (.bool true) ∧ Below w.heap.size w w' := by
  obtain ⟨m, hm, hnm⟩ : ∃ m : Nat, m < 3 ∧ n % 3 = m := ⟨(n % 3).toNat, by omega, by omega⟩
  have HNM := Lib.hid hnm
  clear hnm
  obtain ⟨t, ht, htp, htl⟩ : ∃ t, [t0, t1, t2][m]? = some t ∧ parse t = .ok want ∧ t.length ≤ 1000000 := by
    match m, hm with
    | 0, _ => exact ⟨t0, rfl, t0_want, by decide⟩
    | 1, _ => exact ⟨t1, rfl, t1_want, by decide⟩
    | 2, _ => exact ⟨t2, rfl, t2_want, by decide⟩
  have HPA := Lib.hid fun W => parse_ok ⟨t.toArray⟩ want W htl htp
  have hcell : ∀ (W : World), (W.alloc (.cells #[.string ⟨t0.toArray⟩, .string ⟨t1.toArray⟩, .string ⟨t2.toArray⟩] 9)).cell? ⟨W.heap.size, m, none⟩ = some (.string ⟨t.toArray⟩) := fun W =>
    (blk_cell (heap_alloc_new W _) (by
      match m, hm, ht with
      | 0, _, ht => cases ht; rfl
      | 1, _, ht => cases ht; rfl
      | 2, _, ht => cases ht; rfl)).1
  unfold t0 t1 t2 at hcell
  have hm3 : (m : Int) < 3 := by omega
  clear ht htp
  go_enter Try.func3, Try.ntmps3
  go_wp2_with (first
    | (go_at_call 10; refine (within_any n 3 (by decide) (by decide) _).mono ?_; rintro e w' ⟨rfl, rfl⟩; rw [HNM.out])
    | (go_at_call 11; refine (HPA.out _).mono ?_; rintro e w2 ⟨v, rfl, hb2, hg2⟩
       obtain ⟨a1, a2, a3, c1, c2, c3, rfl⟩ := want_shape hg2
       obtain ⟨hw2, hx2, hB2, hlt2⟩ := want_after hb2
       have S := st_new (cy := #[.slice a1 3 c1, .slice a2 2 c2, .slice a3 4 c3]) hw2 hx2 hB2 hg2.at_
       clear hw2 hx2 hB2 hlt2 hb2 hg2
       have q0 := S.x (i := 0) rfl
       have q1 := S.x (i := 1) rfl
       have q2 := S.x (i := 2) rfl
       have r0 := S.y (i := 0) rfl
       have r1 := S.y (i := 1) rfl
       have r2 := S.y (i := 2) rfl
       have S := Lib.hid S)
    | (go_at_call 12; with_reducible refine (print_w _ _ S.out.V).mono ?_; rintro e wq ⟨rfl, hb⟩
       have S := S.out.step hb
       clear hb q0 q1 q2 r0 r1 r2
       have q0 := S.x (i := 0) rfl
       have q1 := S.x (i := 1) rfl
       have q2 := S.x (i := 2) rfl
       have r0 := S.y (i := 0) rfl
       have r1 := S.y (i := 1) rfl
       have r2 := S.y (i := 2) rfl
       have S := Lib.hid S)
    | (go_at_call 13; with_reducible refine (find_A _ _ S.out.V).mono ?_; rintro e wq ⟨rfl, hb⟩
       have S := S.out.step hb
       clear hb q0 q1 q2 r0 r1 r2
       have q0 := S.x (i := 0) rfl
       have q1 := S.x (i := 1) rfl
       have q2 := S.x (i := 2) rfl
       have r0 := S.y (i := 0) rfl
       have r1 := S.y (i := 1) rfl
       have r2 := S.y (i := 2) rfl
       have S := Lib.hid S)
    | (go_at_call 13; with_reducible refine (find_c _ _ S.out.V).mono ?_; rintro e wq ⟨rfl, hb⟩
       have S := S.out.step hb
       clear hb q0 q1 q2 r0 r1 r2
       have q0 := S.x (i := 0) rfl
       have q1 := S.x (i := 1) rfl
       have q2 := S.x (i := 2) rfl
       have r0 := S.y (i := 0) rfl
       have r1 := S.y (i := 1) rfl
       have r2 := S.y (i := 2) rfl
       have S := Lib.hid S)
    | (go_at_call 13; with_reducible refine (find_B _ _ S.out.V).mono ?_; rintro e wq ⟨rfl, hb⟩
       have S := S.out.step hb
       clear hb q0 q1 q2 r0 r1 r2
       have q0 := S.x (i := 0) rfl
       have q1 := S.x (i := 1) rfl
       have q2 := S.x (i := 2) rfl
       have r0 := S.y (i := 0) rfl
       have r1 := S.y (i := 1) rfl
       have r2 := S.y (i := 2) rfl
       have S := Lib.hid S)
    | (go_at_call 14; with_reducible refine (same_w _ _ _ S.out.v S.out.V).mono ?_; rintro e wq ⟨rfl, hb⟩
       have S := S.out.step hb
       clear hb q0 q1 q2 r0 r1 r2
       have q0 := S.x (i := 0) rfl
       have q1 := S.x (i := 1) rfl
       have q2 := S.x (i := 2) rfl
       have r0 := S.y (i := 0) rfl
       have r1 := S.y (i := 1) rfl
       have r2 := S.y (i := 2) rfl
       have S := Lib.hid S)
    | (go_at_call 15; with_reducible refine (name_3 _ _ S.out.v).mono ?_; rintro e wq ⟨rfl, hb⟩
       have S := S.out.step hb
       clear hb q0 q1 q2 r0 r1 r2
       have q0 := S.x (i := 0) rfl
       have q1 := S.x (i := 1) rfl
       have q2 := S.x (i := 2) rfl
       have r0 := S.y (i := 0) rfl
       have r1 := S.y (i := 1) rfl
       have r2 := S.y (i := 2) rfl
       have S := Lib.hid S)
    | (go_at_call 15; with_reducible refine (name_0 _ _ S.out.v).mono ?_; rintro e wq ⟨rfl, hb⟩
       have S := S.out.step hb
       clear hb q0 q1 q2 r0 r1 r2
       have q0 := S.x (i := 0) rfl
       have q1 := S.x (i := 1) rfl
       have q2 := S.x (i := 2) rfl
       have r0 := S.y (i := 0) rfl
       have r1 := S.y (i := 1) rfl
       have r2 := S.y (i := 2) rfl
       have S := Lib.hid S)
    | (go_at_call 15; with_reducible refine (name_4 _ _ S.out.v).mono ?_; rintro e wq ⟨rfl, hb⟩
       have S := S.out.step hb
       clear hb q0 q1 q2 r0 r1 r2
       have q0 := S.x (i := 0) rfl
       have q1 := S.x (i := 1) rfl
       have q2 := S.x (i := 2) rfl
       have r0 := S.y (i := 0) rfl
       have r1 := S.y (i := 1) rfl
       have r2 := S.y (i := 2) rfl
       have S := Lib.hid S)
    | (go_at_call 15; with_reducible refine (name_102 _ _ S.out.v).mono ?_; rintro e wq ⟨rfl, hb⟩
       have S := S.out.step hb
       clear hb q0 q1 q2 r0 r1 r2
       have q0 := S.x (i := 0) rfl
       have q1 := S.x (i := 1) rfl
       have q2 := S.x (i := 2) rfl
       have r0 := S.y (i := 0) rfl
       have r1 := S.y (i := 1) rfl
       have r2 := S.y (i := 2) rfl
       have S := Lib.hid S)
    | (go_at_call 16; refine (wakes_any _).mono ?_; rintro e wq ⟨rfl, hb⟩
       have S := S.out.step hb
       clear hb q0 q1 q2 r0 r1 r2
       have q0 := S.x (i := 0) rfl
       have q1 := S.x (i := 1) rfl
       have q2 := S.x (i := 2) rfl
       have r0 := S.y (i := 0) rfl
       have r1 := S.y (i := 1) rfl
       have r2 := S.y (i := 2) rfl
       have S := Lib.hid S))
  go_ret
  exact ⟨rfl, S.out.1⟩

end Go.Proofs.Ytamifbgegmbbaaa
