/- WordTells, of slices that came in. -/
import Derived.Test.YtflfmcikfiaoiaaWordTells
import Derived.Test.YtflfmcikfiaoiaaRowC
set_option linter.unusedVariables false
namespace Go.Proofs.Ytflfmcikfiaoiaa
open Go.RowKit

theorem wordTells_row (x : RawX) (la : Option Addr) (len lc : Nat) (zs : List Int) (lb : Option Addr) (len2 ld : Nat) (zs2 : List Int) (w : World) (hx : RawAt w x) (hwd : RawWide x) (hr : IsRow .i64 w la len lc zs) (hs : lc * 8 ≤ 140737488351232) (hr2 : IsRow .i64 w lb len2 ld zs2) (hs2 : ld * 8 ≤ 140737488351232) : Calls Try.prog 6 #[x.v, .slice la len lc, .slice lb len2 ld] w fun e w' => e = .returned (.bool true) ∧ Below w.heap.size w w' := by
  obtain ⟨h1, h2⟩ := row_len hr
  obtain ⟨h3, h4⟩ := row_len hr2
  have h := wordTells_walk x la lb lc ld (zs.take len) (zs2.take len2) w hx hwd (row_cells hr) (row_cells hr2) (by omega) (by omega)
  rwa [h1, h3] at h

end Go.Proofs.Ytflfmcikfiaoiaa
