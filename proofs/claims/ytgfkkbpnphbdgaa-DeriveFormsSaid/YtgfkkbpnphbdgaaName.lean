/- gram.Name: walked. -/
import Derived.Test.YtgfkkbpnphbdgaaChk
import Derived.Test.YtgfkkbpnphbdgaaCut
namespace Go.Proofs.Ytgfkkbpnphbdgaa
open Go.RowKit
open Doc

end Go.Proofs.Ytgfkkbpnphbdgaa
