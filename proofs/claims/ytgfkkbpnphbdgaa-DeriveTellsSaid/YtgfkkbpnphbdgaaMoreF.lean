/- A production more: what holds then. No program here. -/
import Derived.Test.YtgfkkbpnphbdgaaFirstS
import Derived.Test.YtgfkkbpnphbdgaaReach
import Derived.Test.YtgfkkbpnphbdgaaSpec
import Derived.Test.YtgfkkbpnphbdgaaChk
set_option linter.unusedVariables false
namespace Go.Proofs.Ytgfkkbpnphbdgaa
open Go.RowKit
open Doc

section
variable {g : Gr} {p : Int × List Int}
end
theorem okB_iff (g : Gr) : okB g = true ↔ CheckG g := by
  rw [← allOk_iff]
  by_cases h : AllOk g
  · rw [okB_true h]; simp [h]
  · rw [okB_false h]; simp [h]

theorem lays_len (l : List Lay) : (lays l).length = l.length * 2 := by
  induction l with
  | nil => rfl
  | cons p l ih => show ([_, _] ++ lays l).length = _; rw [List.length_append, ih]; simp; omega

end Go.Proofs.Ytgfkkbpnphbdgaa
