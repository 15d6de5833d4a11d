/- first: the small calls, walked. -/
import Derived.Test.YtgfkkbpnphbdgaaFirstS
import Derived.Test.YtgfkkbpnphbdgaaReach
import Derived.Test.YtgfkkbpnphbdgaaRaw
set_option linter.unusedVariables false
namespace Go.Proofs.Ytgfkkbpnphbdgaa
open Go.RowKit
open Doc

def us (F : List Nat) : List Value := F.map fun (x : Nat) => Value.int .u64 (x : Int)
end Go.Proofs.Ytgfkkbpnphbdgaa
