/-
  No cell of these rows narrows 'for every input' (looked for: loops, veiled, ifaces, maps, wideKeys, modest, calm, conditions, laid).
  DERIVED. THE GIVEN ROWS OF THIS SEAT. 7 by the template 'for every input the law returns true; each argument reads behind the call as it read before'; 0 by the template 'total and deterministic' (their statements: YtflfmcikfiaoiaaTotals.lean).
  GIVEN WITH THE SEED: the statements are not yours to turn. If you find one false, say at which input.
  Laid BY PROGRAM, IN A SANDBOX (cutbox-rows.mjs): the forced cells as the released guide's own fill.sh prints them over the translation 288c0b5f729f2bdd… (all of the seat's roots in one cut). By AI agents, Wed Nov 11 2026. No macro, syntax, notation, axiom, sorry.
-/
import Derived.Test.YtflfmcikfiaoiaaChecked
import GoSem.Claim
import GoSem.ClaimJoined
import GoSem.ClaimMapViews
import Derived.JoinedTies
import Derived.KernelRfl
namespace Go.Proofs.Ytflfmcikfiaoiaa
/- THE CELL 'sum', in the pinned program and in every row, IS THE sha256 OF THE DUMP (.gsa) THAT YtflfmcikfiaoiaaProg.lean LOADS. Nothing in Lean hashes anything: it is a label: what it is worth is what the hold of that sum in a sandbox is worth. -/
noncomputable def Try.pinned : Pinned := { name := "ytflfmcikfiaoiaa", sum := "288c0b5f729f2bdd29970c2e000ac13b7d1f5e6518ce929aad1f937066b50df1", checked := Try.checked }
namespace Rows
def none {H : Type} : Left H := { results := [], args := [] }

/-- 'exegetelaw05.ReachWords': WHATEVER THE INPUT: true; the input reads as it did. -/
def reachWordsSpec : ChangeSpec := { name := "reachWords", fn := fun _ => fun
  | [d] => { results := [.lit (.bool true)], args := [d] }
  | _ => none }
def reachWordsRow : OpenClaim := { program := "ytflfmcikfiaoiaa", sum := "288c0b5f729f2bdd29970c2e000ac13b7d1f5e6518ce929aad1f937066b50df1", func := "exegete/exegetelaw05.ReachWords", spec := "reachWords", unfollowed := true, recurses := true, plainKeys := false, apart := false }
def ReachWordsSaid : Prop := reachWordsRow.holds Try.pinned (OpenSpec.ofChange reachWordsSpec)

/-- ITS FALSE NEIGHBOUR: 'it returns false'. Refute it at one input. -/
def reachWordsWrong : ChangeSpec := { name := "reachWords", fn := fun _ => fun
  | [d] => { results := [.lit (.bool false)], args := [d] }
  | _ => none }
def ReachWordsWrongFalsely : Prop := reachWordsRow.holds Try.pinned (OpenSpec.ofChange reachWordsWrong)

/-- 'exegetelaw06.FirstTells': WHATEVER THE INPUT: true; the input reads as it did. -/
def firstTellsSpec : ChangeSpec := { name := "firstTells", fn := fun _ => fun
  | [d1, d2, d3] => { results := [.lit (.bool true)], args := [d1, d2, d3] }
  | _ => none }
def firstTellsRow : OpenClaim := { program := "ytflfmcikfiaoiaa", sum := "288c0b5f729f2bdd29970c2e000ac13b7d1f5e6518ce929aad1f937066b50df1", func := "exegete/exegetelaw06.FirstTells", spec := "firstTells", unfollowed := true, recurses := true, plainKeys := false, apart := false }
def FirstTellsSaid : Prop := firstTellsRow.holds Try.pinned (OpenSpec.ofChange firstTellsSpec)

/-- ITS FALSE NEIGHBOUR: 'it returns false'. Refute it at one input. -/
def firstTellsWrong : ChangeSpec := { name := "firstTells", fn := fun _ => fun
  | [d1, d2, d3] => { results := [.lit (.bool false)], args := [d1, d2, d3] }
  | _ => none }
def FirstTellsWrongFalsely : Prop := firstTellsRow.holds Try.pinned (OpenSpec.ofChange firstTellsWrong)

/-- 'exegetelaw06.FirstWords': WHATEVER THE INPUT: true; the input reads as it did. -/
def firstWordsSpec : ChangeSpec := { name := "firstWords", fn := fun _ => fun
  | [d] => { results := [.lit (.bool true)], args := [d] }
  | _ => none }
def firstWordsRow : OpenClaim := { program := "ytflfmcikfiaoiaa", sum := "288c0b5f729f2bdd29970c2e000ac13b7d1f5e6518ce929aad1f937066b50df1", func := "exegete/exegetelaw06.FirstWords", spec := "firstWords", unfollowed := true, recurses := true, plainKeys := false, apart := false }
def FirstWordsSaid : Prop := firstWordsRow.holds Try.pinned (OpenSpec.ofChange firstWordsSpec)

/-- ITS FALSE NEIGHBOUR: 'it returns false'. Refute it at one input. -/
def firstWordsWrong : ChangeSpec := { name := "firstWords", fn := fun _ => fun
  | [d] => { results := [.lit (.bool false)], args := [d] }
  | _ => none }
def FirstWordsWrongFalsely : Prop := firstWordsRow.holds Try.pinned (OpenSpec.ofChange firstWordsWrong)

/-- 'exegetelaw07.WordTells': WHATEVER THE INPUT: true; the input reads as it did. -/
def wordTellsSpec : ChangeSpec := { name := "wordTells", fn := fun _ => fun
  | [d1, d2, d3] => { results := [.lit (.bool true)], args := [d1, d2, d3] }
  | _ => none }
def wordTellsRow : OpenClaim := { program := "ytflfmcikfiaoiaa", sum := "288c0b5f729f2bdd29970c2e000ac13b7d1f5e6518ce929aad1f937066b50df1", func := "exegete/exegetelaw07.WordTells", spec := "wordTells", inPlace := ["math.Float64frombits", "math.Float64bits"], unfollowed := true, recurses := true, plainKeys := false, apart := false }
def WordTellsSaid : Prop := wordTellsRow.holds Try.pinned (OpenSpec.ofChange wordTellsSpec)

/-- ITS FALSE NEIGHBOUR: 'it returns false'. Refute it at one input. -/
def wordTellsWrong : ChangeSpec := { name := "wordTells", fn := fun _ => fun
  | [d1, d2, d3] => { results := [.lit (.bool false)], args := [d1, d2, d3] }
  | _ => none }
def WordTellsWrongFalsely : Prop := wordTellsRow.holds Try.pinned (OpenSpec.ofChange wordTellsWrong)

/-- 'exegetelaw07.WordLeast': WHATEVER THE INPUT: true; the input reads as it did. -/
def wordLeastSpec : ChangeSpec := { name := "wordLeast", fn := fun _ => fun
  | [d] => { results := [.lit (.bool true)], args := [d] }
  | _ => none }
def wordLeastRow : OpenClaim := { program := "ytflfmcikfiaoiaa", sum := "288c0b5f729f2bdd29970c2e000ac13b7d1f5e6518ce929aad1f937066b50df1", func := "exegete/exegetelaw07.WordLeast", spec := "wordLeast", inPlace := ["math.Float64frombits", "math.Float64bits"], unfollowed := true, recurses := true, plainKeys := false, apart := false }
def WordLeastSaid : Prop := wordLeastRow.holds Try.pinned (OpenSpec.ofChange wordLeastSpec)

/-- ITS FALSE NEIGHBOUR: 'it returns false'. Refute it at one input. -/
def wordLeastWrong : ChangeSpec := { name := "wordLeast", fn := fun _ => fun
  | [d] => { results := [.lit (.bool false)], args := [d] }
  | _ => none }
def WordLeastWrongFalsely : Prop := wordLeastRow.holds Try.pinned (OpenSpec.ofChange wordLeastWrong)

/-- 'exegetelaw08.TreeParses': WHATEVER THE INPUT: true; the input reads as it did. -/
def treeParsesSpec : ChangeSpec := { name := "treeParses", fn := fun _ => fun
  | [d1, d2, d3, d4, d5, d6, d7] => { results := [.lit (.bool true)], args := [d1, d2, d3, d4, d5, d6, d7] }
  | _ => none }
def treeParsesRow : OpenClaim := { program := "ytflfmcikfiaoiaa", sum := "288c0b5f729f2bdd29970c2e000ac13b7d1f5e6518ce929aad1f937066b50df1", func := "exegete/exegetelaw08.TreeParses", spec := "treeParses", inPlace := ["internal/bytealg.IndexByteString", "internal/bytealg.IndexString", "internal/abi.NoEscape"], unfollowed := true, recurses := true, named := ["internal/bytealg.MaxLen"], plainKeys := false, apart := false }
def TreeParsesSaid : Prop := treeParsesRow.holds Try.pinned (OpenSpec.ofChange treeParsesSpec)

/-- ITS FALSE NEIGHBOUR: 'it returns false'. Refute it at one input. -/
def treeParsesWrong : ChangeSpec := { name := "treeParses", fn := fun _ => fun
  | [d1, d2, d3, d4, d5, d6, d7] => { results := [.lit (.bool false)], args := [d1, d2, d3, d4, d5, d6, d7] }
  | _ => none }
def TreeParsesWrongFalsely : Prop := treeParsesRow.holds Try.pinned (OpenSpec.ofChange treeParsesWrong)

/-- 'exegetelaw09.DeriveErrors': WHATEVER THE INPUT: true; the input reads as it did. -/
def deriveErrorsSpec : ChangeSpec := { name := "deriveErrors", fn := fun _ => fun
  | [d] => { results := [.lit (.bool true)], args := [d] }
  | _ => none }
def deriveErrorsRow : OpenClaim := { program := "ytflfmcikfiaoiaa", sum := "288c0b5f729f2bdd29970c2e000ac13b7d1f5e6518ce929aad1f937066b50df1", func := "exegete/exegetelaw09.DeriveErrors", spec := "deriveErrors", unfollowed := true, recurses := true, plainKeys := false, apart := false }
def DeriveErrorsSaid : Prop := deriveErrorsRow.holds Try.pinned (OpenSpec.ofChange deriveErrorsSpec)

/-- ITS FALSE NEIGHBOUR: 'it returns false'. Refute it at one input. -/
def deriveErrorsWrong : ChangeSpec := { name := "deriveErrors", fn := fun _ => fun
  | [d] => { results := [.lit (.bool false)], args := [d] }
  | _ => none }
def DeriveErrorsWrongFalsely : Prop := deriveErrorsRow.holds Try.pinned (OpenSpec.ofChange deriveErrorsWrong)

/- THE SECOND FORM. 'bulk': how many values and letters a reading holds, each counted each time it is reached (what is shared counts as often as it is met; a slice's spare places count too). A statement '..UptoSaid' is the law's where the arguments, and the package variables that the reading takes, are together of bulk at most 1048576: NARROWER than '..Said'. Prove '..Said' where nothing that the law and all that it calls make is longer than what came in: it says more and counts as full. Else prove '..UptoSaid'. A law counts once. -/
mutual
def uptoBulk {H : Type} : DataW H → Nat
  | .lit (.string bytes) => bytes.length + 1
  | .lit _ => 1
  | .nil => 1
  | .ptr d => uptoBulk d + 1
  | .slice elems spare => uptoBulkAll elems + uptoBulkAll spare + 1
  | .agg parts => uptoBulkAll parts + 1
  | .iface _ d => uptoBulk d + 1
  | .map entries => uptoBulkEntries entries + 1
  | .held _ => 1
def uptoBulkAll {H : Type} : List (DataW H) → Nat
  | [] => 0
  | d :: r => uptoBulk d + uptoBulkAll r
def uptoBulkEntries {H : Type} : List (Lit × DataW H) → Nat
  | [] => 0
  | x :: r => uptoBulkEntry x + uptoBulkEntries r
def uptoBulkEntry {H : Type} : Lit × DataW H → Nat
  | (.string bytes, d) => bytes.length + uptoBulk d + 1
  | (_, d) => uptoBulk d + 1
 end
def uptoSmall : (H : Type) → List (DataW H) → Bool := fun _ ds => decide (uptoBulkAll ds ≤ 1048576)
def OpenSpec.upto (s : _root_.Go.ChangeSpec) : _root_.Go.OpenSpec := { _root_.Go.OpenSpec.ofChange s with cond := some uptoSmall }

/-- 'exegetelaw05.ReachWords', WHERE WHAT IT READS IS OF BULK AT MOST 1048576: true; the input reads as it did. -/
def reachWordsUptoRow : OpenClaim := { program := "ytflfmcikfiaoiaa", sum := "288c0b5f729f2bdd29970c2e000ac13b7d1f5e6518ce929aad1f937066b50df1", func := "exegete/exegetelaw05.ReachWords", spec := "reachWords", unfollowed := true, recurses := true, plainKeys := false, apart := false, narrowed := true }
def ReachWordsUptoSaid : Prop := reachWordsUptoRow.holds Try.pinned (OpenSpec.upto reachWordsSpec)

/-- 'exegetelaw06.FirstTells', WHERE WHAT IT READS IS OF BULK AT MOST 1048576: true; the input reads as it did. -/
def firstTellsUptoRow : OpenClaim := { program := "ytflfmcikfiaoiaa", sum := "288c0b5f729f2bdd29970c2e000ac13b7d1f5e6518ce929aad1f937066b50df1", func := "exegete/exegetelaw06.FirstTells", spec := "firstTells", unfollowed := true, recurses := true, plainKeys := false, apart := false, narrowed := true }
def FirstTellsUptoSaid : Prop := firstTellsUptoRow.holds Try.pinned (OpenSpec.upto firstTellsSpec)

/-- 'exegetelaw06.FirstWords', WHERE WHAT IT READS IS OF BULK AT MOST 1048576: true; the input reads as it did. -/
def firstWordsUptoRow : OpenClaim := { program := "ytflfmcikfiaoiaa", sum := "288c0b5f729f2bdd29970c2e000ac13b7d1f5e6518ce929aad1f937066b50df1", func := "exegete/exegetelaw06.FirstWords", spec := "firstWords", unfollowed := true, recurses := true, plainKeys := false, apart := false, narrowed := true }
def FirstWordsUptoSaid : Prop := firstWordsUptoRow.holds Try.pinned (OpenSpec.upto firstWordsSpec)

/-- 'exegetelaw07.WordTells', WHERE WHAT IT READS IS OF BULK AT MOST 1048576: true; the input reads as it did. -/
def wordTellsUptoRow : OpenClaim := { program := "ytflfmcikfiaoiaa", sum := "288c0b5f729f2bdd29970c2e000ac13b7d1f5e6518ce929aad1f937066b50df1", func := "exegete/exegetelaw07.WordTells", spec := "wordTells", inPlace := ["math.Float64frombits", "math.Float64bits"], unfollowed := true, recurses := true, plainKeys := false, apart := false, narrowed := true }
def WordTellsUptoSaid : Prop := wordTellsUptoRow.holds Try.pinned (OpenSpec.upto wordTellsSpec)

/-- 'exegetelaw07.WordLeast', WHERE WHAT IT READS IS OF BULK AT MOST 1048576: true; the input reads as it did. -/
def wordLeastUptoRow : OpenClaim := { program := "ytflfmcikfiaoiaa", sum := "288c0b5f729f2bdd29970c2e000ac13b7d1f5e6518ce929aad1f937066b50df1", func := "exegete/exegetelaw07.WordLeast", spec := "wordLeast", inPlace := ["math.Float64frombits", "math.Float64bits"], unfollowed := true, recurses := true, plainKeys := false, apart := false, narrowed := true }
def WordLeastUptoSaid : Prop := wordLeastUptoRow.holds Try.pinned (OpenSpec.upto wordLeastSpec)

/-- 'exegetelaw08.TreeParses', WHERE WHAT IT READS IS OF BULK AT MOST 1048576: true; the input reads as it did. -/
def treeParsesUptoRow : OpenClaim := { program := "ytflfmcikfiaoiaa", sum := "288c0b5f729f2bdd29970c2e000ac13b7d1f5e6518ce929aad1f937066b50df1", func := "exegete/exegetelaw08.TreeParses", spec := "treeParses", inPlace := ["internal/bytealg.IndexByteString", "internal/bytealg.IndexString", "internal/abi.NoEscape"], unfollowed := true, recurses := true, named := ["internal/bytealg.MaxLen"], plainKeys := false, apart := false, narrowed := true }
def TreeParsesUptoSaid : Prop := treeParsesUptoRow.holds Try.pinned (OpenSpec.upto treeParsesSpec)

/-- 'exegetelaw09.DeriveErrors', WHERE WHAT IT READS IS OF BULK AT MOST 1048576: true; the input reads as it did. -/
def deriveErrorsUptoRow : OpenClaim := { program := "ytflfmcikfiaoiaa", sum := "288c0b5f729f2bdd29970c2e000ac13b7d1f5e6518ce929aad1f937066b50df1", func := "exegete/exegetelaw09.DeriveErrors", spec := "deriveErrors", unfollowed := true, recurses := true, plainKeys := false, apart := false, narrowed := true }
def DeriveErrorsUptoSaid : Prop := deriveErrorsUptoRow.holds Try.pinned (OpenSpec.upto deriveErrorsSpec)

end Rows
end Go.Proofs.Ytflfmcikfiaoiaa
