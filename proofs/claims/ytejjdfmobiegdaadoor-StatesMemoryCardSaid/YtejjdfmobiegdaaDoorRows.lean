/-
  NARROWER THAN 'FOR EVERY INPUT', by the rows' own cells (each row's printed sentence says how): LangTells: laid · LangFew: laid · StatesForms: laid · StatesErrors: laid · StatesBudget: laid · StatesWhole: laid · StatesItems: laid · StatesMemory: laid.
  DERIVED. THE GIVEN ROWS OF THIS SEAT. 8 by the template 'for every input the law returns true; each argument reads behind the call as it read before'; 0 by the template 'total and deterministic' (their statements: YtejjdfmobiegdaaDoorTotals.lean).
  GIVEN WITH THE SEED: the statements are not yours to turn. If you find one false, say at which input.
  Laid BY PROGRAM, IN A SANDBOX (cutbox-rows.mjs): the forced cells as the released guide's own fill.sh prints them over the translation 1d72a0ce04cd6072… (all of the seat's roots in one cut). By AI agents, Wed Nov 11 2026. No macro, syntax, notation, axiom, sorry.
-/
import Derived.Test.YtejjdfmobiegdaaDoorChecked
import GoSem.Claim
import GoSem.ClaimJoined
import GoSem.ClaimMapViews
import Derived.JoinedTies
import Derived.KernelRfl
namespace Go.Proofs.YtejjdfmobiegdaaDoor
/- THE CELL 'sum', in the pinned program and in every row, IS THE sha256 OF THE DUMP (.gsa) THAT YtejjdfmobiegdaaDoorProg.lean LOADS. Nothing in Lean hashes anything: it is a label: what it is worth is what the hold of that sum in a sandbox is worth. -/
noncomputable def Tryd.pinned : Pinned := { name := "ytejjdfmobiegdaadoor", sum := "1d72a0ce04cd6072e344298f75c1d4f2d7d0d5dcf26e5f9cbd466dfa268714fa", checked := Tryd.checked }
namespace Rows
def none {H : Type} : Left H := { results := [], args := [] }

/- WHAT THE LISTED PACKAGE-LEVEL VARIABLES READ AS WHEN THE CALL BEGINS. Each datum BY PROGRAM (the guide's laid-datum.mjs) off the statement by which the dump's own 'gosem.cut.vars' lays the variable. In a bare row this is a premise. The card (YtejjdfmobiegdaaDoorCards.lean) ties it to the program's text. -/
def laid_math_bits_deBruijn32tab {H : Type} : DataW H := .agg [.lit (.int .u8 0), .lit (.int .u8 1), .lit (.int .u8 28), .lit (.int .u8 2), .lit (.int .u8 29), .lit (.int .u8 14), .lit (.int .u8 24), .lit (.int .u8 3), .lit (.int .u8 30), .lit (.int .u8 22), .lit (.int .u8 20), .lit (.int .u8 15), .lit (.int .u8 25), .lit (.int .u8 17), .lit (.int .u8 4), .lit (.int .u8 8), .lit (.int .u8 31), .lit (.int .u8 27), .lit (.int .u8 13), .lit (.int .u8 23), .lit (.int .u8 21), .lit (.int .u8 19), .lit (.int .u8 16), .lit (.int .u8 7), .lit (.int .u8 26), .lit (.int .u8 12), .lit (.int .u8 18), .lit (.int .u8 6), .lit (.int .u8 11), .lit (.int .u8 5), .lit (.int .u8 10), .lit (.int .u8 9)]
def laid_math_bits_deBruijn64tab {H : Type} : DataW H := .agg [.lit (.int .u8 0), .lit (.int .u8 1), .lit (.int .u8 56), .lit (.int .u8 2), .lit (.int .u8 57), .lit (.int .u8 49), .lit (.int .u8 28), .lit (.int .u8 3), .lit (.int .u8 61), .lit (.int .u8 58), .lit (.int .u8 42), .lit (.int .u8 50), .lit (.int .u8 38), .lit (.int .u8 29), .lit (.int .u8 17), .lit (.int .u8 4), .lit (.int .u8 62), .lit (.int .u8 47), .lit (.int .u8 59), .lit (.int .u8 36), .lit (.int .u8 45), .lit (.int .u8 43), .lit (.int .u8 51), .lit (.int .u8 22), .lit (.int .u8 53), .lit (.int .u8 39), .lit (.int .u8 33), .lit (.int .u8 30), .lit (.int .u8 24), .lit (.int .u8 18), .lit (.int .u8 12), .lit (.int .u8 5), .lit (.int .u8 63), .lit (.int .u8 55), .lit (.int .u8 48), .lit (.int .u8 27), .lit (.int .u8 60), .lit (.int .u8 41), .lit (.int .u8 37), .lit (.int .u8 16), .lit (.int .u8 46), .lit (.int .u8 35), .lit (.int .u8 44), .lit (.int .u8 21), .lit (.int .u8 52), .lit (.int .u8 32), .lit (.int .u8 23), .lit (.int .u8 11), .lit (.int .u8 54), .lit (.int .u8 26), .lit (.int .u8 40), .lit (.int .u8 15), .lit (.int .u8 34), .lit (.int .u8 20), .lit (.int .u8 31), .lit (.int .u8 10), .lit (.int .u8 25), .lit (.int .u8 14), .lit (.int .u8 19), .lit (.int .u8 9), .lit (.int .u8 13), .lit (.int .u8 8), .lit (.int .u8 7), .lit (.int .u8 6)]

/-- 'exegetelaw10.LangTells': WHATEVER THE INPUT: true; the input reads as it did. -/
def langTellsSpec : ChangeSpec := { name := "langTells", fn := fun _ => fun
  | [d1, d2, d3, d4, d5] => { results := [.lit (.bool true)], args := [d1, d2, d3, d4, d5] }
  | _ => none }
def langTellsRow : OpenClaim := { program := "ytejjdfmobiegdaadoor", sum := "1d72a0ce04cd6072e344298f75c1d4f2d7d0d5dcf26e5f9cbd466dfa268714fa", func := "exegete/exegetelaw10.LangTells", spec := "langTells", unfollowed := true, recurses := true, named := ["math/bits.deBruijn32tab"], plainKeys := false, apart := false, laid := [("math/bits.deBruijn32tab", laid_math_bits_deBruijn32tab)] }
def LangTellsSaid : Prop := langTellsRow.holds Tryd.pinned (OpenSpec.ofChange langTellsSpec)

/-- ITS FALSE NEIGHBOUR: 'it returns false'. Refute it at one input. -/
def langTellsWrong : ChangeSpec := { name := "langTells", fn := fun _ => fun
  | [d1, d2, d3, d4, d5] => { results := [.lit (.bool false)], args := [d1, d2, d3, d4, d5] }
  | _ => none }
def LangTellsWrongFalsely : Prop := langTellsRow.holds Tryd.pinned (OpenSpec.ofChange langTellsWrong)

/-- 'exegetelaw10.LangFew': WHATEVER THE INPUT: true; the input reads as it did. -/
def langFewSpec : ChangeSpec := { name := "langFew", fn := fun _ => fun
  | [d1, d2, d3] => { results := [.lit (.bool true)], args := [d1, d2, d3] }
  | _ => none }
def langFewRow : OpenClaim := { program := "ytejjdfmobiegdaadoor", sum := "1d72a0ce04cd6072e344298f75c1d4f2d7d0d5dcf26e5f9cbd466dfa268714fa", func := "exegete/exegetelaw10.LangFew", spec := "langFew", unfollowed := true, recurses := true, named := ["math/bits.deBruijn32tab"], plainKeys := false, apart := false, laid := [("math/bits.deBruijn32tab", laid_math_bits_deBruijn32tab)] }
def LangFewSaid : Prop := langFewRow.holds Tryd.pinned (OpenSpec.ofChange langFewSpec)

/-- ITS FALSE NEIGHBOUR: 'it returns false'. Refute it at one input. -/
def langFewWrong : ChangeSpec := { name := "langFew", fn := fun _ => fun
  | [d1, d2, d3] => { results := [.lit (.bool false)], args := [d1, d2, d3] }
  | _ => none }
def LangFewWrongFalsely : Prop := langFewRow.holds Tryd.pinned (OpenSpec.ofChange langFewWrong)

/-- 'exegetelaw12.StatesForms': WHATEVER THE INPUT: true; the input reads as it did. -/
def statesFormsSpec : ChangeSpec := { name := "statesForms", fn := fun _ => fun
  | [d] => { results := [.lit (.bool true)], args := [d] }
  | _ => none }
def statesFormsRow : OpenClaim := { program := "ytejjdfmobiegdaadoor", sum := "1d72a0ce04cd6072e344298f75c1d4f2d7d0d5dcf26e5f9cbd466dfa268714fa", func := "exegete/exegetelaw12.StatesForms", spec := "statesForms", unfollowed := true, recurses := true, named := ["math/bits.deBruijn64tab"], plainKeys := false, apart := false, laid := [("math/bits.deBruijn64tab", laid_math_bits_deBruijn64tab)] }
def StatesFormsSaid : Prop := statesFormsRow.holds Tryd.pinned (OpenSpec.ofChange statesFormsSpec)

/-- ITS FALSE NEIGHBOUR: 'it returns false'. Refute it at one input. -/
def statesFormsWrong : ChangeSpec := { name := "statesForms", fn := fun _ => fun
  | [d] => { results := [.lit (.bool false)], args := [d] }
  | _ => none }
def StatesFormsWrongFalsely : Prop := statesFormsRow.holds Tryd.pinned (OpenSpec.ofChange statesFormsWrong)

/-- 'exegetelaw12.StatesErrors': WHATEVER THE INPUT: true; the input reads as it did. -/
def statesErrorsSpec : ChangeSpec := { name := "statesErrors", fn := fun _ => fun
  | [d] => { results := [.lit (.bool true)], args := [d] }
  | _ => none }
def statesErrorsRow : OpenClaim := { program := "ytejjdfmobiegdaadoor", sum := "1d72a0ce04cd6072e344298f75c1d4f2d7d0d5dcf26e5f9cbd466dfa268714fa", func := "exegete/exegetelaw12.StatesErrors", spec := "statesErrors", unfollowed := true, recurses := true, named := ["math/bits.deBruijn64tab"], plainKeys := false, apart := false, laid := [("math/bits.deBruijn64tab", laid_math_bits_deBruijn64tab)] }
def StatesErrorsSaid : Prop := statesErrorsRow.holds Tryd.pinned (OpenSpec.ofChange statesErrorsSpec)

/-- ITS FALSE NEIGHBOUR: 'it returns false'. Refute it at one input. -/
def statesErrorsWrong : ChangeSpec := { name := "statesErrors", fn := fun _ => fun
  | [d] => { results := [.lit (.bool false)], args := [d] }
  | _ => none }
def StatesErrorsWrongFalsely : Prop := statesErrorsRow.holds Tryd.pinned (OpenSpec.ofChange statesErrorsWrong)

/-- 'exegetelaw12.StatesBudget': WHATEVER THE INPUT: true; the input reads as it did. -/
def statesBudgetSpec : ChangeSpec := { name := "statesBudget", fn := fun _ => fun
  | [d] => { results := [.lit (.bool true)], args := [d] }
  | _ => none }
def statesBudgetRow : OpenClaim := { program := "ytejjdfmobiegdaadoor", sum := "1d72a0ce04cd6072e344298f75c1d4f2d7d0d5dcf26e5f9cbd466dfa268714fa", func := "exegete/exegetelaw12.StatesBudget", spec := "statesBudget", unfollowed := true, recurses := true, named := ["math/bits.deBruijn64tab"], plainKeys := false, apart := false, laid := [("math/bits.deBruijn64tab", laid_math_bits_deBruijn64tab)] }
def StatesBudgetSaid : Prop := statesBudgetRow.holds Tryd.pinned (OpenSpec.ofChange statesBudgetSpec)

/-- ITS FALSE NEIGHBOUR: 'it returns false'. Refute it at one input. -/
def statesBudgetWrong : ChangeSpec := { name := "statesBudget", fn := fun _ => fun
  | [d] => { results := [.lit (.bool false)], args := [d] }
  | _ => none }
def StatesBudgetWrongFalsely : Prop := statesBudgetRow.holds Tryd.pinned (OpenSpec.ofChange statesBudgetWrong)

/-- 'exegetelaw12.StatesWhole': WHATEVER THE INPUT: true; the input reads as it did. -/
def statesWholeSpec : ChangeSpec := { name := "statesWhole", fn := fun _ => fun
  | [d] => { results := [.lit (.bool true)], args := [d] }
  | _ => none }
def statesWholeRow : OpenClaim := { program := "ytejjdfmobiegdaadoor", sum := "1d72a0ce04cd6072e344298f75c1d4f2d7d0d5dcf26e5f9cbd466dfa268714fa", func := "exegete/exegetelaw12.StatesWhole", spec := "statesWhole", unfollowed := true, recurses := true, named := ["math/bits.deBruijn64tab"], plainKeys := false, apart := false, laid := [("math/bits.deBruijn64tab", laid_math_bits_deBruijn64tab)] }
def StatesWholeSaid : Prop := statesWholeRow.holds Tryd.pinned (OpenSpec.ofChange statesWholeSpec)

/-- ITS FALSE NEIGHBOUR: 'it returns false'. Refute it at one input. -/
def statesWholeWrong : ChangeSpec := { name := "statesWhole", fn := fun _ => fun
  | [d] => { results := [.lit (.bool false)], args := [d] }
  | _ => none }
def StatesWholeWrongFalsely : Prop := statesWholeRow.holds Tryd.pinned (OpenSpec.ofChange statesWholeWrong)

/-- 'exegetelaw12.StatesItems': WHATEVER THE INPUT: true; the input reads as it did. -/
def statesItemsSpec : ChangeSpec := { name := "statesItems", fn := fun _ => fun
  | [d] => { results := [.lit (.bool true)], args := [d] }
  | _ => none }
def statesItemsRow : OpenClaim := { program := "ytejjdfmobiegdaadoor", sum := "1d72a0ce04cd6072e344298f75c1d4f2d7d0d5dcf26e5f9cbd466dfa268714fa", func := "exegete/exegetelaw12.StatesItems", spec := "statesItems", unfollowed := true, recurses := true, named := ["math/bits.deBruijn64tab"], plainKeys := false, apart := false, laid := [("math/bits.deBruijn64tab", laid_math_bits_deBruijn64tab)] }
def StatesItemsSaid : Prop := statesItemsRow.holds Tryd.pinned (OpenSpec.ofChange statesItemsSpec)

/-- ITS FALSE NEIGHBOUR: 'it returns false'. Refute it at one input. -/
def statesItemsWrong : ChangeSpec := { name := "statesItems", fn := fun _ => fun
  | [d] => { results := [.lit (.bool false)], args := [d] }
  | _ => none }
def StatesItemsWrongFalsely : Prop := statesItemsRow.holds Tryd.pinned (OpenSpec.ofChange statesItemsWrong)

/-- 'exegetelaw12.StatesMemory': WHATEVER THE INPUT: true; the input reads as it did. -/
def statesMemorySpec : ChangeSpec := { name := "statesMemory", fn := fun _ => fun
  | [d1, d2] => { results := [.lit (.bool true)], args := [d1, d2] }
  | _ => none }
def statesMemoryRow : OpenClaim := { program := "ytejjdfmobiegdaadoor", sum := "1d72a0ce04cd6072e344298f75c1d4f2d7d0d5dcf26e5f9cbd466dfa268714fa", func := "exegete/exegetelaw12.StatesMemory", spec := "statesMemory", unfollowed := true, recurses := true, named := ["math/bits.deBruijn64tab"], plainKeys := false, apart := false, laid := [("math/bits.deBruijn64tab", laid_math_bits_deBruijn64tab)] }
def StatesMemorySaid : Prop := statesMemoryRow.holds Tryd.pinned (OpenSpec.ofChange statesMemorySpec)

/-- ITS FALSE NEIGHBOUR: 'it returns false'. Refute it at one input. -/
def statesMemoryWrong : ChangeSpec := { name := "statesMemory", fn := fun _ => fun
  | [d1, d2] => { results := [.lit (.bool false)], args := [d1, d2] }
  | _ => none }
def StatesMemoryWrongFalsely : Prop := statesMemoryRow.holds Tryd.pinned (OpenSpec.ofChange statesMemoryWrong)

/- THE SECOND FORM. 'bulk': how many values and letters a reading holds, each counted each time it is reached (what is shared counts as often as it is met; a slice's spare places count too). A statement '..UptoSaid' is the law's where the arguments, and the package variables that the reading takes, are together of bulk at most 1048576: NARROWER than '..Said'. Prove '..Said' where nothing that the law and all that it calls make is longer than what came in: it says more and counts as full. Else prove '..UptoSaid'. A law counts once. -/
mutual
def uptoBulk {H : Type} : DataW H → Nat
  | .lit (.string bytes) => bytes.length + 1
  | .lit _ => 1
  | .nil => 1
  | .ptr d => uptoBulk d + 1
  | .slice elems spare => uptoBulkAll elems + uptoBulkAll spare + 1
  | .agg parts => uptoBulkAll parts + 1
  | .iface _ d => uptoBulk d + 1
  | .map entries => uptoBulkEntries entries + 1
  | .held _ => 1
def uptoBulkAll {H : Type} : List (DataW H) → Nat
  | [] => 0
  | d :: r => uptoBulk d + uptoBulkAll r
def uptoBulkEntries {H : Type} : List (Lit × DataW H) → Nat
  | [] => 0
  | x :: r => uptoBulkEntry x + uptoBulkEntries r
def uptoBulkEntry {H : Type} : Lit × DataW H → Nat
  | (.string bytes, d) => bytes.length + uptoBulk d + 1
  | (_, d) => uptoBulk d + 1
 end
def uptoSmall : (H : Type) → List (DataW H) → Bool := fun _ ds => decide (uptoBulkAll ds ≤ 1048576)
def OpenSpec.upto (s : _root_.Go.ChangeSpec) : _root_.Go.OpenSpec := { _root_.Go.OpenSpec.ofChange s with cond := some uptoSmall }

/-- 'exegetelaw10.LangTells', WHERE WHAT IT READS IS OF BULK AT MOST 1048576: true; the input reads as it did. -/
def langTellsUptoRow : OpenClaim := { program := "ytejjdfmobiegdaadoor", sum := "1d72a0ce04cd6072e344298f75c1d4f2d7d0d5dcf26e5f9cbd466dfa268714fa", func := "exegete/exegetelaw10.LangTells", spec := "langTells", unfollowed := true, recurses := true, named := ["math/bits.deBruijn32tab"], plainKeys := false, apart := false, laid := [("math/bits.deBruijn32tab", laid_math_bits_deBruijn32tab)], narrowed := true }
def LangTellsUptoSaid : Prop := langTellsUptoRow.holds Tryd.pinned (OpenSpec.upto langTellsSpec)

/-- 'exegetelaw10.LangFew', WHERE WHAT IT READS IS OF BULK AT MOST 1048576: true; the input reads as it did. -/
def langFewUptoRow : OpenClaim := { program := "ytejjdfmobiegdaadoor", sum := "1d72a0ce04cd6072e344298f75c1d4f2d7d0d5dcf26e5f9cbd466dfa268714fa", func := "exegete/exegetelaw10.LangFew", spec := "langFew", unfollowed := true, recurses := true, named := ["math/bits.deBruijn32tab"], plainKeys := false, apart := false, laid := [("math/bits.deBruijn32tab", laid_math_bits_deBruijn32tab)], narrowed := true }
def LangFewUptoSaid : Prop := langFewUptoRow.holds Tryd.pinned (OpenSpec.upto langFewSpec)

/-- 'exegetelaw12.StatesForms', WHERE WHAT IT READS IS OF BULK AT MOST 1048576: true; the input reads as it did. -/
def statesFormsUptoRow : OpenClaim := { program := "ytejjdfmobiegdaadoor", sum := "1d72a0ce04cd6072e344298f75c1d4f2d7d0d5dcf26e5f9cbd466dfa268714fa", func := "exegete/exegetelaw12.StatesForms", spec := "statesForms", unfollowed := true, recurses := true, named := ["math/bits.deBruijn64tab"], plainKeys := false, apart := false, laid := [("math/bits.deBruijn64tab", laid_math_bits_deBruijn64tab)], narrowed := true }
def StatesFormsUptoSaid : Prop := statesFormsUptoRow.holds Tryd.pinned (OpenSpec.upto statesFormsSpec)

/-- 'exegetelaw12.StatesErrors', WHERE WHAT IT READS IS OF BULK AT MOST 1048576: true; the input reads as it did. -/
def statesErrorsUptoRow : OpenClaim := { program := "ytejjdfmobiegdaadoor", sum := "1d72a0ce04cd6072e344298f75c1d4f2d7d0d5dcf26e5f9cbd466dfa268714fa", func := "exegete/exegetelaw12.StatesErrors", spec := "statesErrors", unfollowed := true, recurses := true, named := ["math/bits.deBruijn64tab"], plainKeys := false, apart := false, laid := [("math/bits.deBruijn64tab", laid_math_bits_deBruijn64tab)], narrowed := true }
def StatesErrorsUptoSaid : Prop := statesErrorsUptoRow.holds Tryd.pinned (OpenSpec.upto statesErrorsSpec)

/-- 'exegetelaw12.StatesBudget', WHERE WHAT IT READS IS OF BULK AT MOST 1048576: true; the input reads as it did. -/
def statesBudgetUptoRow : OpenClaim := { program := "ytejjdfmobiegdaadoor", sum := "1d72a0ce04cd6072e344298f75c1d4f2d7d0d5dcf26e5f9cbd466dfa268714fa", func := "exegete/exegetelaw12.StatesBudget", spec := "statesBudget", unfollowed := true, recurses := true, named := ["math/bits.deBruijn64tab"], plainKeys := false, apart := false, laid := [("math/bits.deBruijn64tab", laid_math_bits_deBruijn64tab)], narrowed := true }
def StatesBudgetUptoSaid : Prop := statesBudgetUptoRow.holds Tryd.pinned (OpenSpec.upto statesBudgetSpec)

/-- 'exegetelaw12.StatesWhole', WHERE WHAT IT READS IS OF BULK AT MOST 1048576: true; the input reads as it did. -/
def statesWholeUptoRow : OpenClaim := { program := "ytejjdfmobiegdaadoor", sum := "1d72a0ce04cd6072e344298f75c1d4f2d7d0d5dcf26e5f9cbd466dfa268714fa", func := "exegete/exegetelaw12.StatesWhole", spec := "statesWhole", unfollowed := true, recurses := true, named := ["math/bits.deBruijn64tab"], plainKeys := false, apart := false, laid := [("math/bits.deBruijn64tab", laid_math_bits_deBruijn64tab)], narrowed := true }
def StatesWholeUptoSaid : Prop := statesWholeUptoRow.holds Tryd.pinned (OpenSpec.upto statesWholeSpec)

/-- 'exegetelaw12.StatesItems', WHERE WHAT IT READS IS OF BULK AT MOST 1048576: true; the input reads as it did. -/
def statesItemsUptoRow : OpenClaim := { program := "ytejjdfmobiegdaadoor", sum := "1d72a0ce04cd6072e344298f75c1d4f2d7d0d5dcf26e5f9cbd466dfa268714fa", func := "exegete/exegetelaw12.StatesItems", spec := "statesItems", unfollowed := true, recurses := true, named := ["math/bits.deBruijn64tab"], plainKeys := false, apart := false, laid := [("math/bits.deBruijn64tab", laid_math_bits_deBruijn64tab)], narrowed := true }
def StatesItemsUptoSaid : Prop := statesItemsUptoRow.holds Tryd.pinned (OpenSpec.upto statesItemsSpec)

/-- 'exegetelaw12.StatesMemory', WHERE WHAT IT READS IS OF BULK AT MOST 1048576: true; the input reads as it did. -/
def statesMemoryUptoRow : OpenClaim := { program := "ytejjdfmobiegdaadoor", sum := "1d72a0ce04cd6072e344298f75c1d4f2d7d0d5dcf26e5f9cbd466dfa268714fa", func := "exegete/exegetelaw12.StatesMemory", spec := "statesMemory", unfollowed := true, recurses := true, named := ["math/bits.deBruijn64tab"], plainKeys := false, apart := false, laid := [("math/bits.deBruijn64tab", laid_math_bits_deBruijn64tab)], narrowed := true }
def StatesMemoryUptoSaid : Prop := statesMemoryUptoRow.holds Tryd.pinned (OpenSpec.upto statesMemorySpec)

end Rows
end Go.Proofs.YtejjdfmobiegdaaDoor
