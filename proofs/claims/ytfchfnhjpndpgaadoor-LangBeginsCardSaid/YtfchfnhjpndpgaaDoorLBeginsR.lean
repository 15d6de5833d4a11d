/- LangBegins, of a slice that came in. -/
import Derived.Test.YtfchfnhjpndpgaaDoorLBegins
import Derived.Test.YtfchfnhjpndpgaaDoorRowC
set_option linter.unusedVariables false
namespace Go.Proofs.YtfchfnhjpndpgaaDoor
open Go.RowKit

theorem langBegins_row (x : RawX) (la : Option Addr) (len lc : Nat) (zs : List Int) (cut : Int) (w : World) (hx : RawAt w x) (hr : IsRow .i64 w la len lc zs) (hs : lc * 8 ≤ 140737488351232) (hT : Tab32 w) :
    Calls Tryd.prog 6 #[x.v, .slice la len lc, .int .i64 cut] w fun e w' => e = .returned (.bool true) ∧ Below w.heap.size w w' := by
  obtain ⟨h1, h2⟩ := row_len hr
  have h := langBegins_walk x la lc (zs.take len) cut w hx (row_cells hr) (by omega) hT
  rwa [h1] at h
end Go.Proofs.YtfchfnhjpndpgaaDoor
