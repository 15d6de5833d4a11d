/- gram.write: the text of a grammar. -/
import Derived.Test.YtgfkkbpnphbdgaaWrite
import Derived.Test.YtgfkkbpnphbdgaaName
import Derived.Laws.Concat
namespace Go.Proofs.Ytgfkkbpnphbdgaa
open Go.RowKit
open Doc

def rowTxt (g : Gr) (r : List Int) : List UInt8 := r.flatMap fun s => 32 :: nameG g s
def sepT (first : Bool) : List UInt8 := if first then [58] else [32, 124]
def midF (g : Gr) (i : Nat) : List (Int × List Int) → Bool → List UInt8
  | [], _ => []
  | p :: l, first => if p.1 = ((100 + i : Nat) : Int) then sepT first ++ (rowTxt g p.2 ++ midF g i l false) else midF g i l first
def wrF (g : Gr) : List (List UInt8) → Nat → List UInt8
  | [], _ => []
  | n :: l, i => n ++ (midF g i g.prods true ++ 10 :: wrF g l (i + 1))
def writeT (g : Gr) : List UInt8 := wrF g g.nons 0

theorem cat2_run (a b : List UInt8) (w : World) (h : a.length + b.length ≤ 10000000) : (Op.stringOp .add ⟨a.toArray⟩ ⟨b.toArray⟩).run Try.prog w = .ok (.string ⟨(a ++ b).toArray⟩) w := by
  rw [run_string_add_sum w _ _ (by show a.length + b.length ≤ _; omega)]
  have e : (⟨a.toArray⟩ : ByteArray) ++ ⟨b.toArray⟩ = ⟨(a ++ b).toArray⟩ := ByteArray.ext (by simp)
  rw [e]

end Go.Proofs.Ytgfkkbpnphbdgaa
