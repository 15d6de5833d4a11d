/- DeriveParts, of slices that came in. -/
import Derived.Test.YtgfkkbpnphbdgaaDParts
import Derived.Test.YtgfkkbpnphbdgaaRowC
set_option linter.unusedVariables false
namespace Go.Proofs.Ytgfkkbpnphbdgaa
open Go.RowKit

theorem deriveParts_row (x : RawX) (pk : Int) (la : Option Addr) (len lc : Nat) (zs : List Int) (ca : Option Addr) (len2 cc : Nat) (ys : List Int) (w : World) (hx : RawAt w x) (hr : IsRow .i64 w la len lc zs) (hs : lc * 8 ≤ 140737488351232) (hr2 : IsRow .i64 w ca len2 cc ys) (hs2 : cc * 8 ≤ 140737488351232) :
    Calls Try.prog 8 #[x.v, .int .i64 pk, .slice la len lc, .slice ca len2 cc] w fun e w' => e = .returned (.bool true) ∧ Below w.heap.size w w' := by
  obtain ⟨h1, h2⟩ := row_len hr
  obtain ⟨h3, h4⟩ := row_len hr2
  have h := deriveParts_walk x pk la lc (zs.take len) ca cc (ys.take len2) w hx (row_cells hr) (by omega) (row_wide hr) (row_cells hr2) (by omega) (row_wide hr2)
  rwa [h1, h3] at h
end Go.Proofs.Ytgfkkbpnphbdgaa
