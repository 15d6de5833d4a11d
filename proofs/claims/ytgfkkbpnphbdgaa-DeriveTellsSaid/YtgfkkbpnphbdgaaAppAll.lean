/- Rows of numbers appended, whether or not there are any; a copy. -/
import Derived.Test.YtgfkkbpnphbdgaaWordR
import Derived.Test.YtgfkkbpnphbdgaaWake
set_option linter.unusedVariables false
namespace Go.Proofs.Ytgfkkbpnphbdgaa
open Go.RowKit
open Doc

end Go.Proofs.Ytgfkkbpnphbdgaa
