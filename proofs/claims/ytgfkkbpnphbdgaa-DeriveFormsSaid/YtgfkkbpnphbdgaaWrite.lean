/- (*strings.Builder).WriteString at this dump: what it writes, and what stays. -/
import Derived.Test.YtgfkkbpnphbdgaaForm
import Derived.Shelf.Strings.Builder1
import Derived.Lib.AppendStr
namespace Go.Proofs.Ytgfkkbpnphbdgaa
open Go.RowKit
open Doc

theorem infoB : (Try.prog.info? 5).map (fun i => (i.zero, i.size, i.bytes)) = some (some (.int .u8 0), 1, 1) := by kernel_rfl
end Go.Proofs.Ytgfkkbpnphbdgaa
