/- Plain facts of double words: which are costs, their order, sums, whole numbers, ten times, whole parts. No program, no model. -/
import Ieee.Arith
namespace Go.Proofs.Ytgfkkbpnphbdgaa.Fl
open Ieee

/-- The rung of infinity of a double. -/
def inf : Nat := 9218868437227405312
def bin : Nat := 4503599627370496
/-- The value of a rung in units of 2^-1074. -/
def V (r : Nat) : Nat := if r < bin then r else (bin + r % bin) * 2 ^ (r / bin - 1)

def up (r : Nat) : Nat := if r < bin then 0 else r / bin - 1
/-- Rounding of a number of units of 2^-1074. -/
def R (v : Nat) : Nat := double.nearest false v (-1074)
/-- Is the word a cost's? -/
def right (b : Nat) : Bool := decide (b ≤ inf)

/-- The least so far: its place, itself (-1 and endless: none). -/
def pick (l : List Nat) : Int × Nat := (l.zipIdx).foldl (fun a x => if right x.1 && decide (x.1 < a.2) then ((x.2 : Int), x.1) else a) (-1, inf)
def far : Nat := 4816244402031689728
end Go.Proofs.Ytgfkkbpnphbdgaa.Fl
