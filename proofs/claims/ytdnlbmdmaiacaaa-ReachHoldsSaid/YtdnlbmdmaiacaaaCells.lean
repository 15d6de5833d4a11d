/- What slices hold in memory: cells in a row; texts; numbers; productions; a grammar. -/
import Derived.Test.YtdnlbmdmaiacaaaLeafs
import Derived.Test.YtdnlbmdmaiacaaaRead
import Derived.WalkKit
import Derived.Lib.Hide
import Derived.Lib.Strings
import Derived.Laws.OwnMore
import Derived.Deep.AppendLies
namespace Go.Proofs.Ytdnlbmdmaiacaaa
open Go.RowKit
open Doc

/-- The cells xs lie at a, one behind the other. -/
def Cells (w : World) (a : Option Addr) (xs : List Value) : Prop :=
  xs = [] ∨ ∃ b off, a = some ⟨b, off, none⟩ ∧ b < w.heap.size ∧ ∀ j u, xs[j]? = some u → w.cell? ⟨b, off + j, none⟩ = some u

theorem Cells.below {w w' : World} {a : Option Addr} {xs : List Value} (h : Cells w a xs) (hb : Below w.heap.size w w') : Cells w' a xs := by
  rcases h with h | ⟨b, off, ha, hlt, hc⟩
  · exact .inl h
  · exact .inr ⟨b, off, ha, Nat.lt_of_lt_of_le hlt hb.size, fun j u hj => (hb.cell (p := ⟨b, off + j, none⟩) hlt).trans (hc j u hj)⟩

theorem Cells.get {w : World} {a : Option Addr} {xs : List Value} (h : Cells w a xs) (hx : xs ≠ []) : ∃ b off, a = some ⟨b, off, none⟩ ∧ b < w.heap.size ∧ ∀ j u, xs[j]? = some u → w.cell? ⟨b, off + j, none⟩ = some u :=
  h.resolve_left hx

theorem cells_own {w : World} {base : Nat} {e : TypeId} {size : Nat} {v : Value} {n : Nat} {xs : List Value} (h : w.ownsRow base e size v n xs) :
    ∃ a cap, v = .slice a n cap ∧ Cells w a xs := by
  rcases Nat.eq_zero_or_pos n with h0 | h0
  · have hx : xs = [] := List.eq_nil_of_length_eq_zero (by rw [h.1, h0, Nat.zero_mul])
    rcases h.2 with ⟨hv, _⟩ | ⟨g, cap, cur, hv, _⟩
    · exact ⟨none, 0, by rw [h0]; exact hv, .inl hx⟩
    · exact ⟨_, cap, hv, .inl hx⟩
  · obtain ⟨g, cap, rfl, hB, hg⟩ := h.form h0
    refine ⟨_, cap, rfl, .inr ⟨g, 0, rfl, hg, fun j u hj => ?_⟩⟩
    have hlt : j < n * size := by rw [← h.1]; exact (List.getElem?_eq_some_iff.1 hj).1
    rw [Nat.zero_add]
    exact (h.cellAt j hlt).trans hj

/-- A list of texts. -/
def strs (l : List (List UInt8)) : List Value := l.map fun x => .string ⟨x.toArray⟩
theorem strs_at {l : List (List UInt8)} {j : Nat} {x : List UInt8} (h : l[j]? = some x) : (strs l)[j]? = some (.string ⟨x.toArray⟩) := by
  unfold strs; rw [List.getElem?_map, h]; rfl
/-- A list of numbers. -/
def nums (l : List Int) : List Value := l.map fun x => .int .i64 x
theorem nums_at {l : List Int} {j : Nat} {x : Int} (h : l[j]? = some x) : (nums l)[j]? = some (.int .i64 x) := by
  unfold nums; rw [List.getElem?_map, h]; rfl

/-- A production as it lies: its left, and where its right lies. -/
structure Lay where
  left : Int
  right : List Int
  addr : Option Addr
  cap : Nat
def Lay.plain (p : Lay) : Int × List Int := (p.left, p.right)
def lays (l : List Lay) : List Value := l.flatMap fun p => [.int .i64 p.left, .slice p.addr p.right.length p.cap]
theorem lays_at : ∀ (l : List Lay) (j : Nat) (p : Lay), l[j]? = some p → (lays l)[j * 2]? = some (.int .i64 p.left) ∧ (lays l)[j * 2 + 1]? = some (.slice p.addr p.right.length p.cap)
  | [], j, p, h => by simp at h
  | u :: l, 0, p, h => by
    simp at h; subst h
    simp [lays]
  | u :: l, j + 1, p, h => by
    have ih := lays_at l j p (by simpa using h)
    have e : ∀ i, (lays (u :: l))[(j + 1) * 2 + i]? = (lays l)[j * 2 + i]? := fun i => by
      rw [show lays (u :: l) = [.int .i64 u.left, .slice u.addr u.right.length u.cap] ++ lays l from rfl, show (j + 1) * 2 + i = 2 + (j * 2 + i) by omega, List.getElem?_append_right (by simp)]
      congr 1; simp
    exact ⟨(e 0).trans ih.1, (e 1).trans ih.2⟩

/-- A grammar's value, as it lies. -/
def GramAt (w : World) (v : Value) (g : Gr) : Prop :=
  ∃ (at_ an ap : Option Addr) (ct cn cp : Nat) (ls : List Lay), v = .agg #[.slice at_ g.terms.length ct, .slice an g.nons.length cn, .slice ap ls.length cp] ∧
    ls.map Lay.plain = g.prods ∧ Cells w at_ (strs g.terms) ∧ Cells w an (strs g.nons) ∧ Cells w ap (lays ls) ∧ (∀ p ∈ ls, Cells w p.addr (nums p.right)) ∧ g.terms.length ≤ ct ∧ g.nons.length ≤ cn ∧ ls.length ≤ cp

theorem GramAt.below {w w' : World} {v : Value} {g : Gr} (h : GramAt w v g) (hb : Below w.heap.size w w') : GramAt w' v g := by
  obtain ⟨a, b, c, ca, cb, cc, ls, hv, hp, h1, h2, h3, h4, h5⟩ := h
  exact ⟨a, b, c, ca, cb, cc, ls, hv, hp, h1.below hb, h2.below hb, h3.below hb, fun p hp => (h4 p hp).below hb, h5⟩

end Go.Proofs.Ytdnlbmdmaiacaaa
