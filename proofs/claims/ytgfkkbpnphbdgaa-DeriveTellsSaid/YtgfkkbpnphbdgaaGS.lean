/- Sets that grow in rounds: after as many rounds as there is room, they grow no more. No program here. -/
import Derived.Test.YtgfkkbpnphbdgaaFirstS
set_option linter.unusedVariables false
namespace Go.Proofs.Ytgfkkbpnphbdgaa
open Go.RowKit
open Doc

theorem box_below (w : World) (o : Obj) : Below w.heap.size w (w.alloc o) := (Below.refl _ _).alloc (Nat.le_refl _) _

/-- All digits stand for something that holds. -/
def Sound (n : Nat) (P : Int → Prop) (S : Nat) : Prop := ∀ i : Nat, S.testBit i = true → i < n ∧ P (100 + (i : Int))
end Go.Proofs.Ytgfkkbpnphbdgaa
