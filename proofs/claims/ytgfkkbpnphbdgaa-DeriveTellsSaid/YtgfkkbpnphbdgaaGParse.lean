/- The document's own Parse, its two ends; grammars that are nothing. -/
import Derived.Test.YtgfkkbpnphbdgaaRParse
import Derived.Test.YtgfkkbpnphbdgaaWake
import Derived.Test.YtgfkkbpnphbdgaaGS
import Derived.Test.YtgfkkbpnphbdgaaReach
import Derived.Test.YtgfkkbpnphbdgaaFind
set_option linter.unusedVariables false
namespace Go.Proofs.Ytgfkkbpnphbdgaa
open Go.RowKit
open Doc

theorem parse_check {t : List UInt8} {g : Gr} (h : parse t = .ok g) : CheckG g := good_check g (read_good _ _ h)
end Go.Proofs.Ytgfkkbpnphbdgaa
