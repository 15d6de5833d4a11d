/- word: Least: walked. -/
import Derived.Test.YtgfkkbpnphbdgaaWordT
import Derived.Test.YtgfkkbpnphbdgaaReach
import Derived.Laws.MakeOwn
set_option linter.unusedVariables false
namespace Go.Proofs.Ytgfkkbpnphbdgaa
open Go.RowKit
open Doc

def slV (p : WL) : Value := .slice p.addr p.word.length p.cap
/-- Rows of words, as they are handed out. -/
structure OutAt (w : World) (b : Nat) (ls : List WL) : Prop where
  q : w.heap[b]? = some (.cells (ls.map slV).toArray 30)
  r : ∀ p ∈ ls, Cells w p.addr (nums p.word)
  z : ∀ p ∈ ls, p.known = false → p.word = []
theorem OutAt.below {w w' : World} {b : Nat} {ls : List WL} (h : OutAt w b ls) (hb : Below w.heap.size w w') : OutAt w' b ls :=
  ⟨(hb.block b (heap_lt h.q)).trans h.q, fun p hp => (h.r p hp).below hb, h.z⟩
theorem sym_in {g : Gr} (h : CheckG g) : ∀ p ∈ g.prods, (100 ≤ p.1 ∧ p.1 < 100 + (g.nons.length : Int)) ∧ ∀ s ∈ p.2, -1000000 ≤ s ∧ s < 100 + (g.nons.length : Int) := fun p hp => by
  have h1 := h.pv p hp
  have ht := h.t8
  refine ⟨h1.1, fun s hs => ?_⟩
  have := h1.2.2 s hs
  unfold symOk at this
  omega
end Go.Proofs.Ytgfkkbpnphbdgaa
