/- ReachForms: its grammars, in plain words. No program here. -/
import Derived.Test.YtgfkkbpnphbdgaaReach
import Derived.Test.YtgfkkbpnphbdgaaGParse
set_option linter.unusedVariables false
namespace Go.Proofs.Ytgfkkbpnphbdgaa
open Go.RowKit
open Doc

theorem lays_set : ∀ (l : List Lay) (j : Nat) (p : Lay), lays (l.set j p) = ((lays l).set (j * 2) (.int .i64 p.left)).set (j * 2 + 1) (.slice p.addr p.right.length p.cap)
  | [], j, p => by simp [lays]
  | q :: l, 0, p => by simp [lays]
  | q :: l, j + 1, p => by
    have ih := lays_set l j p
    show [_, _] ++ lays (l.set j p) = (([_, _] ++ lays l).set _ _).set _ _
    rw [ih, List.set_append_right _ _ (by simp; omega), List.set_append_right _ _ (by simp; omega)]
    have e1 : (j + 1) * 2 - [Value.int .i64 q.left, .slice q.addr q.right.length q.cap].length = j * 2 := by simp; omega
    have e2 : (j + 1) * 2 + 1 - [Value.int .i64 q.left, .slice q.addr q.right.length q.cap].length = j * 2 + 1 := by simp; omega
    rw [e1, e2]

end Go.Proofs.Ytgfkkbpnphbdgaa
