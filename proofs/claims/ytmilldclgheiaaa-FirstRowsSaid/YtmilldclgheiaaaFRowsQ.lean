/- FirstRows, of slices that came in. -/
import Derived.Test.YtmilldclgheiaaaFRows
import Derived.Test.YtmilldclgheiaaaRowC
set_option linter.unusedVariables false
namespace Go.Proofs.Ytmilldclgheiaaa
open Go.RowKit

theorem firstRows_row (x : RawX) (la : Option Addr) (len lc : Nat) (zs : List Int) (left : Int) (w : World) (hx : RawAt w x) (hr : IsRow .i64 w la len lc zs) (hs : lc * 8 ≤ 140737488351232) : Calls Try.prog 11 #[x.v, .slice la len lc, .int .i64 left] w fun e w' => e = .returned (.bool true) ∧ Below w.heap.size w w' := by
  obtain ⟨h1, h2⟩ := row_len hr
  have h := firstRows_walk x la lc (zs.take len) left w hx (row_cells hr) (by omega) (row_wide hr)
  rwa [h1] at h

end Go.Proofs.Ytmilldclgheiaaa
