/- FirstTells, of slices that came in. -/
import Derived.Test.YtflfmcikfiaoiaaFirstTells
import Derived.Test.YtflfmcikfiaoiaaRowC
set_option linter.unusedVariables false
namespace Go.Proofs.Ytflfmcikfiaoiaa
open Go.RowKit

theorem firstTells_row (x : RawX) (la : Option Addr) (len lc : Nat) (zs : List Int) (ahead : Int) (w : World) (hx : RawAt w x) (hwd : RawWide x) (hr : IsRow .i64 w la len lc zs) (hs : lc * 8 ≤ 140737488351232) (hah : -9223372036854775808 ≤ ahead ∧ ahead ≤ 9223372036854775807) : Calls Try.prog 4 #[x.v, .slice la len lc, .int .i64 ahead] w fun e w' => e = .returned (.bool true) ∧ Below w.heap.size w w' := by
  obtain ⟨h1, h2⟩ := row_len hr
  have h := firstTells_walk x la lc (zs.take len) ahead w hx hwd (row_cells hr) (by omega) (row_wide hr) hah
  rwa [h1] at h

end Go.Proofs.Ytflfmcikfiaoiaa
