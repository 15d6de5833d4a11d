/- Same: two grammars alike. The document's example. -/
import Derived.Test.YtgfkkbpnphbdgaaForm
import Derived.Test.YtgfkkbpnphbdgaaParse
namespace Go.Proofs.Ytgfkkbpnphbdgaa
open Go.RowKit
open Doc

/-- Grammars of which no list is too long for a walk. -/
def Fits (g : Gr) : Prop := g.terms.length ≤ 1000000 ∧ g.nons.length ≤ 1000000 ∧ g.prods.length ≤ 1000000 ∧ ∀ p ∈ g.prods, p.2.length ≤ 1000000

end Go.Proofs.Ytgfkkbpnphbdgaa

namespace Go.Proofs.Ytgfkkbpnphbdgaa
open Go.RowKit
open Doc

theorem cells_new (w : World) (cs : Array Value) (T : TypeId) : Cells (w.alloc (.cells cs T)) (some ⟨w.heap.size, 0, none⟩) cs.toList := by
  refine .inr ⟨_, _, rfl, by simp, fun j u hj => ?_⟩
  rw [Nat.zero_add]
  exact (blk_cell (heap_alloc_new w (.cells cs T)) (by simpa using hj)).1
end Go.Proofs.Ytgfkkbpnphbdgaa
