/- word: Less, and the least word of a row: walked. -/
import Derived.Test.YtgfkkbpnphbdgaaForm
import Derived.Test.YtgfkkbpnphbdgaaWordS
set_option linter.unusedVariables false
namespace Go.Proofs.Ytgfkkbpnphbdgaa
open Go.RowKit
open Doc

/-! ### A row's least word -/
/-- A least word as it lies. -/
structure WL where
  word : List Int
  known : Bool
  addr : Option Addr
  cap : Nat
/-- Each that is known lies as it is, and is not too long. -/
def WRows (w : World) (ls : List WL) : Prop := ∀ p ∈ ls, p.known = true → Cells w p.addr (nums p.word) ∧ p.word.length ≤ 100000000
theorem WRows.below {w w' : World} {ls : List WL} (h : WRows w ls) (hb : Below w.heap.size w w') : WRows w' ls := fun p hp hk => ⟨(h p hp hk).1.below hb, (h p hp hk).2⟩

end Go.Proofs.Ytgfkkbpnphbdgaa
