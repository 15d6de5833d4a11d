/- first: the small calls, walked. -/
import Derived.Test.YtgfkkbpnphbdgaaFirstS
import Derived.Test.YtgfkkbpnphbdgaaReach
import Derived.Test.YtgfkkbpnphbdgaaRaw
set_option linter.unusedVariables false
namespace Go.Proofs.Ytgfkkbpnphbdgaa
open Go.RowKit
open Doc

def us (F : List Nat) : List Value := F.map fun (x : Nat) => Value.int .u64 (x : Int)
theorem us_at {F : List Nat} {j x : Nat} (h : F[j]? = some x) : (us F)[j]? = some (.int .u64 x) := by unfold us; rw [List.getElem?_map, h]; rfl
theorem ofL_sing (s : Int) : ofL [s] = sdig s := by simp [ofL]
theorem of_drop {t : Nat} {F : List Nat} {l : List Int} {k : Nat} {s : Int} (hs : l[k]? = some s) (row : Nat) : ofF t F (l.drop k) row = if aloneF t F s = 0 then 0 else ofF t F (l.drop (k + 1)) (goOnF row (aloneF t F s)) := by
  obtain ⟨hk, he⟩ := List.getElem?_eq_some_iff.1 hs
  rw [List.drop_eq_getElem_cons hk, he]; rfl

/-- What stands behind a row, as a set. -/
def aheadS (t : Nat) (y : Int) : Nat := if 0 ≤ y ∧ y ≤ (t : Int) then sdig y else 0

end Go.Proofs.Ytgfkkbpnphbdgaa
