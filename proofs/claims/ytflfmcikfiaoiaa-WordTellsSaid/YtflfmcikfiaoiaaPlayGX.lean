/- exegeteplay.Grammar: walked. -/
import Derived.Test.YtflfmcikfiaoiaaPlayG1
import Derived.Test.YtflfmcikfiaoiaaPlayG2
import Derived.Test.YtflfmcikfiaoiaaPlayG3
import Derived.Test.YtflfmcikfiaoiaaPlayG4
namespace Go.Proofs.Ytflfmcikfiaoiaa
open Go.RowKit
open Doc

theorem grammar_any (x : RawX) (w : World) (hx : RawAt w x) (hw : RawWide x) :
    Calls Try.prog 18 #[x.v] w fun e w' => Below w.heap.size w w' ∧ ∃ (at_ an ap : Option Addr) (n1 n2 n3 ct cn cp : Nat) (g : Gr), e = .returned (.agg #[.slice at_ n1 ct, .slice an n2 cn, .slice ap n3 cp]) ∧ GramAt w' (.agg #[.slice at_ n1 ct, .slice an n2 cn, .slice ap n3 cp]) g ∧ MidG g := by
  by_cases h1 : x.how % 40 < 32
  · exact grammar_1 x w hx hw ⟨by omega, h1⟩
  by_cases h2 : x.how % 40 < 34
  · exact grammar_2 x w hx hw ⟨by omega, h2⟩
  by_cases h3 : x.how % 40 < 37
  · exact grammar_3 x w hx hw ⟨by omega, h3⟩
  · exact grammar_4 x w hx hw ⟨by omega, by omega⟩
end Go.Proofs.Ytflfmcikfiaoiaa
