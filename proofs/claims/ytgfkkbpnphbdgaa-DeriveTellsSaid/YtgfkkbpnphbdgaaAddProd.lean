/- A part, name by name: plain functions, and what the reading by tokens is in their words. No program here. symbol: a name's number. symbol, in the plain functions' words. addProd: a part becomes a production. addParts: the parts of a rule. -/
import Derived.Test.YtgfkkbpnphbdgaaSpec
import Derived.Test.YtgfkkbpnphbdgaaFind
import Derived.Test.YtgfkkbpnphbdgaaForm
import Derived.RegionDies
namespace Go.Proofs.Ytgfkkbpnphbdgaa
open Doc

end Go.Proofs.Ytgfkkbpnphbdgaa

namespace Go.Proofs.Ytgfkkbpnphbdgaa
open Go.RowKit
open Doc

section
variable {b : Nat} {w : World} {ts ns : List (List UInt8)} {ls : List Lay} {at_ an ap : Option Addr} {ct cn cp : Nat}

end

end Go.Proofs.Ytgfkkbpnphbdgaa

namespace Go.Proofs.Ytgfkkbpnphbdgaa
open Go.RowKit
open Doc

section
variable {b : Nat} {w : World} {ts ns : List (List UInt8)} {ls : List Lay} {at_ an ap : Option Addr} {ct cn cp : Nat}

end

end Go.Proofs.Ytgfkkbpnphbdgaa

namespace Go.Proofs.Ytgfkkbpnphbdgaa
open Go.RowKit
open Doc

/-- The cells xs lie at a, whatever is made or written from block b on. -/
def Under (b : Nat) (w : World) (a : Option Addr) (xs : List Value) : Prop := ∀ W, Below b w W → Cells W a xs
theorem Under.trans {b : Nat} {w w' : World} {a : Option Addr} {xs : List Value} (h : Under b w a xs) (hb : Below b w w') : Under b w' a xs := fun W hW => h W (hb.trans hW)

section
variable {b : Nat} {w : World} {ts ns : List (List UInt8)} {ls : List Lay} {at_ an ap : Option Addr} {ct cn cp : Nat}

end

end Go.Proofs.Ytgfkkbpnphbdgaa

namespace Go.Proofs.Ytgfkkbpnphbdgaa
open Go.RowKit
open Doc

section
variable {b : Nat} {w : World} {ts ns : List (List UInt8)} {ls : List Lay} {at_ an ap : Option Addr} {ct cn cp : Nat}

end

end Go.Proofs.Ytgfkkbpnphbdgaa
