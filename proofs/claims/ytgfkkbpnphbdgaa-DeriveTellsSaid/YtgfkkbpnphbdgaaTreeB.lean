/- Trees: Check, isSymbol of the program, and the document's own CheckTree: contracts over any world. -/
import Derived.Test.YtgfkkbpnphbdgaaTreeA
import Derived.Test.YtgfkkbpnphbdgaaWake
import Derived.StillTailTactics
set_option linter.unusedVariables false
namespace Go.Proofs.Ytgfkkbpnphbdgaa
open Go.RowKit
open Doc

/-- Numbers of no great size. -/
def mildI (s : Int) : Prop := -1000000000 ≤ s ∧ s ≤ 1000000000
mutual
def mildT : Tr → Prop | .mk s p ks => mildI s ∧ mildI p ∧ mildK ks
def mildK : List Tr → Prop | [] => True | t :: l => mildT t ∧ mildK l
end
theorem mildK_mk : ∀ {ks : List Tr}, (∀ k ∈ ks, mildT k) → mildK ks
  | [], _ => trivial
  | t :: l, h => by
    simp only [mildK]
    exact ⟨h t List.mem_cons_self, mildK_mk fun k hk => h k (List.mem_cons_of_mem _ hk)⟩

end Go.Proofs.Ytgfkkbpnphbdgaa
