/- The least words are the least of all that come of a nonterminal; what they cost. In plain words. No program here. -/
import Derived.Test.YtgfkkbpnphbdgaaWordS
import Derived.Test.YtgfkkbpnphbdgaaFloat
set_option linter.unusedVariables false
namespace Go.Proofs.Ytgfkkbpnphbdgaa.Wd
open Doc

variable {ps : List (Int × List Int)}
/-! ### What they cost -/
abbrev Co := List (Option Nat)
def co (C : Co) (k : Nat) : Option Nat := (C[k]?).join
end Go.Proofs.Ytgfkkbpnphbdgaa.Wd
