/-
  No cell of these rows narrows 'for every input' (looked for: loops, veiled, ifaces, maps, wideKeys, modest, calm, conditions, laid).
  DERIVED. THE GIVEN ROWS OF THIS SEAT. 12 by the template 'for every input the law returns true; each argument reads behind the call as it read before'; 0 by the template 'total and deterministic' (their statements: YtmilldclgheiaaaTotals.lean).
  GIVEN WITH THE SEED: the statements are not yours to turn. If you find one false, say at which input.
  Laid BY PROGRAM, IN A SANDBOX (cutbox-rows.mjs): the forced cells as the released guide's own fill.sh prints them over the translation 8cfdcae88f1abc58… (all of the seat's roots in one cut). By AI agents, Wed Nov 11 2026. No macro, syntax, notation, axiom, sorry.
-/
import Derived.Test.YtmilldclgheiaaaChecked
import GoSem.Claim
import GoSem.ClaimJoined
import GoSem.ClaimMapViews
import Derived.JoinedTies
import Derived.KernelRfl
namespace Go.Proofs.Ytmilldclgheiaaa
/- THE CELL 'sum', in the pinned program and in every row, IS THE sha256 OF THE DUMP (.gsa) THAT YtmilldclgheiaaaProg.lean LOADS. Nothing in Lean hashes anything: it is a label: what it is worth is what the hold of that sum in a sandbox is worth. -/
noncomputable def Try.pinned : Pinned := { name := "ytmilldclgheiaaa", sum := "8cfdcae88f1abc5883b72d3d8665bab5d5f9ec8073afd8e3fffeeb1fdee6919b", checked := Try.checked }
namespace Rows
def none {H : Type} : Left H := { results := [], args := [] }

/-- 'exegetelaw04.GramChecks': WHATEVER THE INPUT: true; the input reads as it did. -/
def gramChecksSpec : ChangeSpec := { name := "gramChecks", fn := fun _ => fun
  | [d] => { results := [.lit (.bool true)], args := [d] }
  | _ => none }
def gramChecksRow : OpenClaim := { program := "ytmilldclgheiaaa", sum := "8cfdcae88f1abc5883b72d3d8665bab5d5f9ec8073afd8e3fffeeb1fdee6919b", func := "exegete/exegetelaw04.GramChecks", spec := "gramChecks", inPlace := ["internal/abi.NoEscape", "internal/bytealg.IndexByteString", "internal/bytealg.IndexString"], unfollowed := true, recurses := true, named := ["internal/bytealg.MaxLen"], plainKeys := false, apart := false }
def GramChecksSaid : Prop := gramChecksRow.holds Try.pinned (OpenSpec.ofChange gramChecksSpec)

/-- ITS FALSE NEIGHBOUR: 'it returns false'. Refute it at one input. -/
def gramChecksWrong : ChangeSpec := { name := "gramChecks", fn := fun _ => fun
  | [d] => { results := [.lit (.bool false)], args := [d] }
  | _ => none }
def GramChecksWrongFalsely : Prop := gramChecksRow.holds Try.pinned (OpenSpec.ofChange gramChecksWrong)

/-- 'exegetelaw04.GramParses': WHATEVER THE INPUT: true; the input reads as it did. -/
def gramParsesSpec : ChangeSpec := { name := "gramParses", fn := fun _ => fun
  | [d1, d2, d3] => { results := [.lit (.bool true)], args := [d1, d2, d3] }
  | _ => none }
def gramParsesRow : OpenClaim := { program := "ytmilldclgheiaaa", sum := "8cfdcae88f1abc5883b72d3d8665bab5d5f9ec8073afd8e3fffeeb1fdee6919b", func := "exegete/exegetelaw04.GramParses", spec := "gramParses", inPlace := ["internal/bytealg.IndexByteString", "internal/bytealg.IndexString"], unfollowed := true, recurses := true, named := ["internal/bytealg.MaxLen"], plainKeys := false, apart := false }
def GramParsesSaid : Prop := gramParsesRow.holds Try.pinned (OpenSpec.ofChange gramParsesSpec)

/-- ITS FALSE NEIGHBOUR: 'it returns false'. Refute it at one input. -/
def gramParsesWrong : ChangeSpec := { name := "gramParses", fn := fun _ => fun
  | [d1, d2, d3] => { results := [.lit (.bool false)], args := [d1, d2, d3] }
  | _ => none }
def GramParsesWrongFalsely : Prop := gramParsesRow.holds Try.pinned (OpenSpec.ofChange gramParsesWrong)

/-- 'exegetelaw04.GramPrints': WHATEVER THE INPUT: true; the input reads as it did. -/
def gramPrintsSpec : ChangeSpec := { name := "gramPrints", fn := fun _ => fun
  | [d1, d2, d3, d4] => { results := [.lit (.bool true)], args := [d1, d2, d3, d4] }
  | _ => none }
def gramPrintsRow : OpenClaim := { program := "ytmilldclgheiaaa", sum := "8cfdcae88f1abc5883b72d3d8665bab5d5f9ec8073afd8e3fffeeb1fdee6919b", func := "exegete/exegetelaw04.GramPrints", spec := "gramPrints", inPlace := ["internal/abi.NoEscape", "internal/bytealg.IndexByteString", "internal/bytealg.IndexString"], unfollowed := true, recurses := true, named := ["internal/bytealg.MaxLen"], plainKeys := false, apart := false }
def GramPrintsSaid : Prop := gramPrintsRow.holds Try.pinned (OpenSpec.ofChange gramPrintsSpec)

/-- ITS FALSE NEIGHBOUR: 'it returns false'. Refute it at one input. -/
def gramPrintsWrong : ChangeSpec := { name := "gramPrints", fn := fun _ => fun
  | [d1, d2, d3, d4] => { results := [.lit (.bool false)], args := [d1, d2, d3, d4] }
  | _ => none }
def GramPrintsWrongFalsely : Prop := gramPrintsRow.holds Try.pinned (OpenSpec.ofChange gramPrintsWrong)

/-- 'exegetelaw04.GramBack': WHATEVER THE INPUT: true; the input reads as it did. -/
def gramBackSpec : ChangeSpec := { name := "gramBack", fn := fun _ => fun
  | [d1, d2, d3] => { results := [.lit (.bool true)], args := [d1, d2, d3] }
  | _ => none }
def gramBackRow : OpenClaim := { program := "ytmilldclgheiaaa", sum := "8cfdcae88f1abc5883b72d3d8665bab5d5f9ec8073afd8e3fffeeb1fdee6919b", func := "exegete/exegetelaw04.GramBack", spec := "gramBack", inPlace := ["internal/abi.NoEscape", "internal/bytealg.IndexByteString", "internal/bytealg.IndexString"], unfollowed := true, recurses := true, named := ["internal/bytealg.MaxLen"], plainKeys := false, apart := false }
def GramBackSaid : Prop := gramBackRow.holds Try.pinned (OpenSpec.ofChange gramBackSpec)

/-- ITS FALSE NEIGHBOUR: 'it returns false'. Refute it at one input. -/
def gramBackWrong : ChangeSpec := { name := "gramBack", fn := fun _ => fun
  | [d1, d2, d3] => { results := [.lit (.bool false)], args := [d1, d2, d3] }
  | _ => none }
def GramBackWrongFalsely : Prop := gramBackRow.holds Try.pinned (OpenSpec.ofChange gramBackWrong)

/-- 'exegetelaw05.ReachForms': WHATEVER THE INPUT: true; the input reads as it did. -/
def reachFormsSpec : ChangeSpec := { name := "reachForms", fn := fun _ => fun
  | [d] => { results := [.lit (.bool true)], args := [d] }
  | _ => none }
def reachFormsRow : OpenClaim := { program := "ytmilldclgheiaaa", sum := "8cfdcae88f1abc5883b72d3d8665bab5d5f9ec8073afd8e3fffeeb1fdee6919b", func := "exegete/exegetelaw05.ReachForms", spec := "reachForms", unfollowed := true, recurses := true, plainKeys := false, apart := false }
def ReachFormsSaid : Prop := reachFormsRow.holds Try.pinned (OpenSpec.ofChange reachFormsSpec)

/-- ITS FALSE NEIGHBOUR: 'it returns false'. Refute it at one input. -/
def reachFormsWrong : ChangeSpec := { name := "reachForms", fn := fun _ => fun
  | [d] => { results := [.lit (.bool false)], args := [d] }
  | _ => none }
def ReachFormsWrongFalsely : Prop := reachFormsRow.holds Try.pinned (OpenSpec.ofChange reachFormsWrong)

/-- 'exegetelaw05.ReachTells': WHATEVER THE INPUT: true; the input reads as it did. -/
def reachTellsSpec : ChangeSpec := { name := "reachTells", fn := fun _ => fun
  | [d] => { results := [.lit (.bool true)], args := [d] }
  | _ => none }
def reachTellsRow : OpenClaim := { program := "ytmilldclgheiaaa", sum := "8cfdcae88f1abc5883b72d3d8665bab5d5f9ec8073afd8e3fffeeb1fdee6919b", func := "exegete/exegetelaw05.ReachTells", spec := "reachTells", unfollowed := true, recurses := true, plainKeys := false, apart := false }
def ReachTellsSaid : Prop := reachTellsRow.holds Try.pinned (OpenSpec.ofChange reachTellsSpec)

/-- ITS FALSE NEIGHBOUR: 'it returns false'. Refute it at one input. -/
def reachTellsWrong : ChangeSpec := { name := "reachTells", fn := fun _ => fun
  | [d] => { results := [.lit (.bool false)], args := [d] }
  | _ => none }
def ReachTellsWrongFalsely : Prop := reachTellsRow.holds Try.pinned (OpenSpec.ofChange reachTellsWrong)

/-- 'exegetelaw05.ReachWords': WHATEVER THE INPUT: true; the input reads as it did. -/
def reachWordsSpec : ChangeSpec := { name := "reachWords", fn := fun _ => fun
  | [d] => { results := [.lit (.bool true)], args := [d] }
  | _ => none }
def reachWordsRow : OpenClaim := { program := "ytmilldclgheiaaa", sum := "8cfdcae88f1abc5883b72d3d8665bab5d5f9ec8073afd8e3fffeeb1fdee6919b", func := "exegete/exegetelaw05.ReachWords", spec := "reachWords", unfollowed := true, recurses := true, plainKeys := false, apart := false }
def ReachWordsSaid : Prop := reachWordsRow.holds Try.pinned (OpenSpec.ofChange reachWordsSpec)

/-- ITS FALSE NEIGHBOUR: 'it returns false'. Refute it at one input. -/
def reachWordsWrong : ChangeSpec := { name := "reachWords", fn := fun _ => fun
  | [d] => { results := [.lit (.bool false)], args := [d] }
  | _ => none }
def ReachWordsWrongFalsely : Prop := reachWordsRow.holds Try.pinned (OpenSpec.ofChange reachWordsWrong)

/-- 'exegetelaw05.ReachMore': WHATEVER THE INPUT: true; the input reads as it did. -/
def reachMoreSpec : ChangeSpec := { name := "reachMore", fn := fun _ => fun
  | [d1, d2, d3] => { results := [.lit (.bool true)], args := [d1, d2, d3] }
  | _ => none }
def reachMoreRow : OpenClaim := { program := "ytmilldclgheiaaa", sum := "8cfdcae88f1abc5883b72d3d8665bab5d5f9ec8073afd8e3fffeeb1fdee6919b", func := "exegete/exegetelaw05.ReachMore", spec := "reachMore", unfollowed := true, recurses := true, plainKeys := false, apart := false }
def ReachMoreSaid : Prop := reachMoreRow.holds Try.pinned (OpenSpec.ofChange reachMoreSpec)

/-- ITS FALSE NEIGHBOUR: 'it returns false'. Refute it at one input. -/
def reachMoreWrong : ChangeSpec := { name := "reachMore", fn := fun _ => fun
  | [d1, d2, d3] => { results := [.lit (.bool false)], args := [d1, d2, d3] }
  | _ => none }
def ReachMoreWrongFalsely : Prop := reachMoreRow.holds Try.pinned (OpenSpec.ofChange reachMoreWrong)

/-- 'exegetelaw06.FirstRows': WHATEVER THE INPUT: true; the input reads as it did. -/
def firstRowsSpec : ChangeSpec := { name := "firstRows", fn := fun _ => fun
  | [d1, d2, d3] => { results := [.lit (.bool true)], args := [d1, d2, d3] }
  | _ => none }
def firstRowsRow : OpenClaim := { program := "ytmilldclgheiaaa", sum := "8cfdcae88f1abc5883b72d3d8665bab5d5f9ec8073afd8e3fffeeb1fdee6919b", func := "exegete/exegetelaw06.FirstRows", spec := "firstRows", unfollowed := true, recurses := true, plainKeys := false, apart := false }
def FirstRowsSaid : Prop := firstRowsRow.holds Try.pinned (OpenSpec.ofChange firstRowsSpec)

/-- ITS FALSE NEIGHBOUR: 'it returns false'. Refute it at one input. -/
def firstRowsWrong : ChangeSpec := { name := "firstRows", fn := fun _ => fun
  | [d1, d2, d3] => { results := [.lit (.bool false)], args := [d1, d2, d3] }
  | _ => none }
def FirstRowsWrongFalsely : Prop := firstRowsRow.holds Try.pinned (OpenSpec.ofChange firstRowsWrong)

/-- 'exegetelaw06.FirstTells': WHATEVER THE INPUT: true; the input reads as it did. -/
def firstTellsSpec : ChangeSpec := { name := "firstTells", fn := fun _ => fun
  | [d1, d2, d3] => { results := [.lit (.bool true)], args := [d1, d2, d3] }
  | _ => none }
def firstTellsRow : OpenClaim := { program := "ytmilldclgheiaaa", sum := "8cfdcae88f1abc5883b72d3d8665bab5d5f9ec8073afd8e3fffeeb1fdee6919b", func := "exegete/exegetelaw06.FirstTells", spec := "firstTells", unfollowed := true, recurses := true, plainKeys := false, apart := false }
def FirstTellsSaid : Prop := firstTellsRow.holds Try.pinned (OpenSpec.ofChange firstTellsSpec)

/-- ITS FALSE NEIGHBOUR: 'it returns false'. Refute it at one input. -/
def firstTellsWrong : ChangeSpec := { name := "firstTells", fn := fun _ => fun
  | [d1, d2, d3] => { results := [.lit (.bool false)], args := [d1, d2, d3] }
  | _ => none }
def FirstTellsWrongFalsely : Prop := firstTellsRow.holds Try.pinned (OpenSpec.ofChange firstTellsWrong)

/-- 'exegetelaw06.FirstWords': WHATEVER THE INPUT: true; the input reads as it did. -/
def firstWordsSpec : ChangeSpec := { name := "firstWords", fn := fun _ => fun
  | [d] => { results := [.lit (.bool true)], args := [d] }
  | _ => none }
def firstWordsRow : OpenClaim := { program := "ytmilldclgheiaaa", sum := "8cfdcae88f1abc5883b72d3d8665bab5d5f9ec8073afd8e3fffeeb1fdee6919b", func := "exegete/exegetelaw06.FirstWords", spec := "firstWords", unfollowed := true, recurses := true, plainKeys := false, apart := false }
def FirstWordsSaid : Prop := firstWordsRow.holds Try.pinned (OpenSpec.ofChange firstWordsSpec)

/-- ITS FALSE NEIGHBOUR: 'it returns false'. Refute it at one input. -/
def firstWordsWrong : ChangeSpec := { name := "firstWords", fn := fun _ => fun
  | [d] => { results := [.lit (.bool false)], args := [d] }
  | _ => none }
def FirstWordsWrongFalsely : Prop := firstWordsRow.holds Try.pinned (OpenSpec.ofChange firstWordsWrong)

/-- 'exegetelaw06.FirstGrows': WHATEVER THE INPUT: true; the input reads as it did. -/
def firstGrowsSpec : ChangeSpec := { name := "firstGrows", fn := fun _ => fun
  | [d1, d2, d3] => { results := [.lit (.bool true)], args := [d1, d2, d3] }
  | _ => none }
def firstGrowsRow : OpenClaim := { program := "ytmilldclgheiaaa", sum := "8cfdcae88f1abc5883b72d3d8665bab5d5f9ec8073afd8e3fffeeb1fdee6919b", func := "exegete/exegetelaw06.FirstGrows", spec := "firstGrows", unfollowed := true, recurses := true, plainKeys := false, apart := false }
def FirstGrowsSaid : Prop := firstGrowsRow.holds Try.pinned (OpenSpec.ofChange firstGrowsSpec)

/-- ITS FALSE NEIGHBOUR: 'it returns false'. Refute it at one input. -/
def firstGrowsWrong : ChangeSpec := { name := "firstGrows", fn := fun _ => fun
  | [d1, d2, d3] => { results := [.lit (.bool false)], args := [d1, d2, d3] }
  | _ => none }
def FirstGrowsWrongFalsely : Prop := firstGrowsRow.holds Try.pinned (OpenSpec.ofChange firstGrowsWrong)

/- THE SECOND FORM. 'bulk': how many values and letters a reading holds, each counted each time it is reached (what is shared counts as often as it is met; a slice's spare places count too). A statement '..UptoSaid' is the law's where the arguments, and the package variables that the reading takes, are together of bulk at most 1048576: NARROWER than '..Said'. Prove '..Said' where nothing that the law and all that it calls make is longer than what came in: it says more and counts as full. Else prove '..UptoSaid'. A law counts once. -/
mutual
def uptoBulk {H : Type} : DataW H → Nat
  | .lit (.string bytes) => bytes.length + 1
  | .lit _ => 1
  | .nil => 1
  | .ptr d => uptoBulk d + 1
  | .slice elems spare => uptoBulkAll elems + uptoBulkAll spare + 1
  | .agg parts => uptoBulkAll parts + 1
  | .iface _ d => uptoBulk d + 1
  | .map entries => uptoBulkEntries entries + 1
  | .held _ => 1
def uptoBulkAll {H : Type} : List (DataW H) → Nat
  | [] => 0
  | d :: r => uptoBulk d + uptoBulkAll r
def uptoBulkEntries {H : Type} : List (Lit × DataW H) → Nat
  | [] => 0
  | x :: r => uptoBulkEntry x + uptoBulkEntries r
def uptoBulkEntry {H : Type} : Lit × DataW H → Nat
  | (.string bytes, d) => bytes.length + uptoBulk d + 1
  | (_, d) => uptoBulk d + 1
 end
def uptoSmall : (H : Type) → List (DataW H) → Bool := fun _ ds => decide (uptoBulkAll ds ≤ 1048576)
def OpenSpec.upto (s : _root_.Go.ChangeSpec) : _root_.Go.OpenSpec := { _root_.Go.OpenSpec.ofChange s with cond := some uptoSmall }

/-- 'exegetelaw04.GramChecks', WHERE WHAT IT READS IS OF BULK AT MOST 1048576: true; the input reads as it did. -/
def gramChecksUptoRow : OpenClaim := { program := "ytmilldclgheiaaa", sum := "8cfdcae88f1abc5883b72d3d8665bab5d5f9ec8073afd8e3fffeeb1fdee6919b", func := "exegete/exegetelaw04.GramChecks", spec := "gramChecks", inPlace := ["internal/abi.NoEscape", "internal/bytealg.IndexByteString", "internal/bytealg.IndexString"], unfollowed := true, recurses := true, named := ["internal/bytealg.MaxLen"], plainKeys := false, apart := false, narrowed := true }
def GramChecksUptoSaid : Prop := gramChecksUptoRow.holds Try.pinned (OpenSpec.upto gramChecksSpec)

/-- 'exegetelaw04.GramParses', WHERE WHAT IT READS IS OF BULK AT MOST 1048576: true; the input reads as it did. -/
def gramParsesUptoRow : OpenClaim := { program := "ytmilldclgheiaaa", sum := "8cfdcae88f1abc5883b72d3d8665bab5d5f9ec8073afd8e3fffeeb1fdee6919b", func := "exegete/exegetelaw04.GramParses", spec := "gramParses", inPlace := ["internal/bytealg.IndexByteString", "internal/bytealg.IndexString"], unfollowed := true, recurses := true, named := ["internal/bytealg.MaxLen"], plainKeys := false, apart := false, narrowed := true }
def GramParsesUptoSaid : Prop := gramParsesUptoRow.holds Try.pinned (OpenSpec.upto gramParsesSpec)

/-- 'exegetelaw04.GramPrints', WHERE WHAT IT READS IS OF BULK AT MOST 1048576: true; the input reads as it did. -/
def gramPrintsUptoRow : OpenClaim := { program := "ytmilldclgheiaaa", sum := "8cfdcae88f1abc5883b72d3d8665bab5d5f9ec8073afd8e3fffeeb1fdee6919b", func := "exegete/exegetelaw04.GramPrints", spec := "gramPrints", inPlace := ["internal/abi.NoEscape", "internal/bytealg.IndexByteString", "internal/bytealg.IndexString"], unfollowed := true, recurses := true, named := ["internal/bytealg.MaxLen"], plainKeys := false, apart := false, narrowed := true }
def GramPrintsUptoSaid : Prop := gramPrintsUptoRow.holds Try.pinned (OpenSpec.upto gramPrintsSpec)

/-- 'exegetelaw04.GramBack', WHERE WHAT IT READS IS OF BULK AT MOST 1048576: true; the input reads as it did. -/
def gramBackUptoRow : OpenClaim := { program := "ytmilldclgheiaaa", sum := "8cfdcae88f1abc5883b72d3d8665bab5d5f9ec8073afd8e3fffeeb1fdee6919b", func := "exegete/exegetelaw04.GramBack", spec := "gramBack", inPlace := ["internal/abi.NoEscape", "internal/bytealg.IndexByteString", "internal/bytealg.IndexString"], unfollowed := true, recurses := true, named := ["internal/bytealg.MaxLen"], plainKeys := false, apart := false, narrowed := true }
def GramBackUptoSaid : Prop := gramBackUptoRow.holds Try.pinned (OpenSpec.upto gramBackSpec)

/-- 'exegetelaw05.ReachForms', WHERE WHAT IT READS IS OF BULK AT MOST 1048576: true; the input reads as it did. -/
def reachFormsUptoRow : OpenClaim := { program := "ytmilldclgheiaaa", sum := "8cfdcae88f1abc5883b72d3d8665bab5d5f9ec8073afd8e3fffeeb1fdee6919b", func := "exegete/exegetelaw05.ReachForms", spec := "reachForms", unfollowed := true, recurses := true, plainKeys := false, apart := false, narrowed := true }
def ReachFormsUptoSaid : Prop := reachFormsUptoRow.holds Try.pinned (OpenSpec.upto reachFormsSpec)

/-- 'exegetelaw05.ReachTells', WHERE WHAT IT READS IS OF BULK AT MOST 1048576: true; the input reads as it did. -/
def reachTellsUptoRow : OpenClaim := { program := "ytmilldclgheiaaa", sum := "8cfdcae88f1abc5883b72d3d8665bab5d5f9ec8073afd8e3fffeeb1fdee6919b", func := "exegete/exegetelaw05.ReachTells", spec := "reachTells", unfollowed := true, recurses := true, plainKeys := false, apart := false, narrowed := true }
def ReachTellsUptoSaid : Prop := reachTellsUptoRow.holds Try.pinned (OpenSpec.upto reachTellsSpec)

/-- 'exegetelaw05.ReachWords', WHERE WHAT IT READS IS OF BULK AT MOST 1048576: true; the input reads as it did. -/
def reachWordsUptoRow : OpenClaim := { program := "ytmilldclgheiaaa", sum := "8cfdcae88f1abc5883b72d3d8665bab5d5f9ec8073afd8e3fffeeb1fdee6919b", func := "exegete/exegetelaw05.ReachWords", spec := "reachWords", unfollowed := true, recurses := true, plainKeys := false, apart := false, narrowed := true }
def ReachWordsUptoSaid : Prop := reachWordsUptoRow.holds Try.pinned (OpenSpec.upto reachWordsSpec)

/-- 'exegetelaw05.ReachMore', WHERE WHAT IT READS IS OF BULK AT MOST 1048576: true; the input reads as it did. -/
def reachMoreUptoRow : OpenClaim := { program := "ytmilldclgheiaaa", sum := "8cfdcae88f1abc5883b72d3d8665bab5d5f9ec8073afd8e3fffeeb1fdee6919b", func := "exegete/exegetelaw05.ReachMore", spec := "reachMore", unfollowed := true, recurses := true, plainKeys := false, apart := false, narrowed := true }
def ReachMoreUptoSaid : Prop := reachMoreUptoRow.holds Try.pinned (OpenSpec.upto reachMoreSpec)

/-- 'exegetelaw06.FirstRows', WHERE WHAT IT READS IS OF BULK AT MOST 1048576: true; the input reads as it did. -/
def firstRowsUptoRow : OpenClaim := { program := "ytmilldclgheiaaa", sum := "8cfdcae88f1abc5883b72d3d8665bab5d5f9ec8073afd8e3fffeeb1fdee6919b", func := "exegete/exegetelaw06.FirstRows", spec := "firstRows", unfollowed := true, recurses := true, plainKeys := false, apart := false, narrowed := true }
def FirstRowsUptoSaid : Prop := firstRowsUptoRow.holds Try.pinned (OpenSpec.upto firstRowsSpec)

/-- 'exegetelaw06.FirstTells', WHERE WHAT IT READS IS OF BULK AT MOST 1048576: true; the input reads as it did. -/
def firstTellsUptoRow : OpenClaim := { program := "ytmilldclgheiaaa", sum := "8cfdcae88f1abc5883b72d3d8665bab5d5f9ec8073afd8e3fffeeb1fdee6919b", func := "exegete/exegetelaw06.FirstTells", spec := "firstTells", unfollowed := true, recurses := true, plainKeys := false, apart := false, narrowed := true }
def FirstTellsUptoSaid : Prop := firstTellsUptoRow.holds Try.pinned (OpenSpec.upto firstTellsSpec)

/-- 'exegetelaw06.FirstWords', WHERE WHAT IT READS IS OF BULK AT MOST 1048576: true; the input reads as it did. -/
def firstWordsUptoRow : OpenClaim := { program := "ytmilldclgheiaaa", sum := "8cfdcae88f1abc5883b72d3d8665bab5d5f9ec8073afd8e3fffeeb1fdee6919b", func := "exegete/exegetelaw06.FirstWords", spec := "firstWords", unfollowed := true, recurses := true, plainKeys := false, apart := false, narrowed := true }
def FirstWordsUptoSaid : Prop := firstWordsUptoRow.holds Try.pinned (OpenSpec.upto firstWordsSpec)

/-- 'exegetelaw06.FirstGrows', WHERE WHAT IT READS IS OF BULK AT MOST 1048576: true; the input reads as it did. -/
def firstGrowsUptoRow : OpenClaim := { program := "ytmilldclgheiaaa", sum := "8cfdcae88f1abc5883b72d3d8665bab5d5f9ec8073afd8e3fffeeb1fdee6919b", func := "exegete/exegetelaw06.FirstGrows", spec := "firstGrows", unfollowed := true, recurses := true, plainKeys := false, apart := false, narrowed := true }
def FirstGrowsUptoSaid : Prop := firstGrowsUptoRow.holds Try.pinned (OpenSpec.upto firstGrowsSpec)

end Rows
end Go.Proofs.Ytmilldclgheiaaa
