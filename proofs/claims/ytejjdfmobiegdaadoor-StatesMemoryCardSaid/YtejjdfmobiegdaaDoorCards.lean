/-
  DERIVED. GIVEN WITH THE SEED: THE CARDS: each row of YtejjdfmobiegdaaDoorRows.lean that lists a variable, with what it lists TIED to the program's text (the seventh form; the later family's looks); each row that meets fmt, with fmt's text TOLD by the authors' own Lean function (tested against real Go, not proved from fmt's source: count such statements apart). THE CARD IS WHAT COUNTS. Prove the row's statement (the work); the ties are given (YtejjdfmobiegdaaDoorTie.lean); close each card by the builder's one call (the guide's Derived/Test/ToyasCard.lean, 'card_holds'). Laid BY PROGRAM, IN A SANDBOX (cutbox-door.mjs). By AI agents, Wed Nov 11 2026. No macro, syntax, notation, axiom, sorry.
-/
import Derived.Test.YtejjdfmobiegdaaDoorRows
import GoSem.ClaimSeven
namespace Go.Proofs.YtejjdfmobiegdaaDoor
namespace Rows

/-- THE TIED CARD OF 'exegetelaw10.LangTells'. -/
def langTellsCard : Claim7 := { stood := { row := langTellsRow, standIns := [], harness := (true, "fcad124930d6d9ab5d7e0dcd4c227ce85b5bb8d6661f36d7b7215a3f209a90a6"), looks := false }, kinds := [], alts := [], laidByText := true, laidKinds := [.data], laidTests := true, laidLooks := .later }
def LangTellsCardSaid : Prop := Claim7.holds Tryd.pinned (.plain (OpenSpec.ofChange langTellsSpec)) langTellsCard

/-- THE TIED CARD OF 'exegetelaw10.LangFew'. -/
def langFewCard : Claim7 := { stood := { row := langFewRow, standIns := [], harness := (true, "fcad124930d6d9ab5d7e0dcd4c227ce85b5bb8d6661f36d7b7215a3f209a90a6"), looks := false }, kinds := [], alts := [], laidByText := true, laidKinds := [.data], laidTests := true, laidLooks := .later }
def LangFewCardSaid : Prop := Claim7.holds Tryd.pinned (.plain (OpenSpec.ofChange langFewSpec)) langFewCard

/-- THE TIED CARD OF 'exegetelaw12.StatesForms'. -/
def statesFormsCard : Claim7 := { stood := { row := statesFormsRow, standIns := [], harness := (true, "fcad124930d6d9ab5d7e0dcd4c227ce85b5bb8d6661f36d7b7215a3f209a90a6"), looks := false }, kinds := [], alts := [], laidByText := true, laidKinds := [.data], laidTests := true, laidLooks := .later }
def StatesFormsCardSaid : Prop := Claim7.holds Tryd.pinned (.plain (OpenSpec.ofChange statesFormsSpec)) statesFormsCard

/-- THE TIED CARD OF 'exegetelaw12.StatesErrors'. -/
def statesErrorsCard : Claim7 := { stood := { row := statesErrorsRow, standIns := [], harness := (true, "fcad124930d6d9ab5d7e0dcd4c227ce85b5bb8d6661f36d7b7215a3f209a90a6"), looks := false }, kinds := [], alts := [], laidByText := true, laidKinds := [.data], laidTests := true, laidLooks := .later }
def StatesErrorsCardSaid : Prop := Claim7.holds Tryd.pinned (.plain (OpenSpec.ofChange statesErrorsSpec)) statesErrorsCard

/-- THE TIED CARD OF 'exegetelaw12.StatesBudget'. -/
def statesBudgetCard : Claim7 := { stood := { row := statesBudgetRow, standIns := [], harness := (true, "fcad124930d6d9ab5d7e0dcd4c227ce85b5bb8d6661f36d7b7215a3f209a90a6"), looks := false }, kinds := [], alts := [], laidByText := true, laidKinds := [.data], laidTests := true, laidLooks := .later }
def StatesBudgetCardSaid : Prop := Claim7.holds Tryd.pinned (.plain (OpenSpec.ofChange statesBudgetSpec)) statesBudgetCard

/-- THE TIED CARD OF 'exegetelaw12.StatesWhole'. -/
def statesWholeCard : Claim7 := { stood := { row := statesWholeRow, standIns := [], harness := (true, "fcad124930d6d9ab5d7e0dcd4c227ce85b5bb8d6661f36d7b7215a3f209a90a6"), looks := false }, kinds := [], alts := [], laidByText := true, laidKinds := [.data], laidTests := true, laidLooks := .later }
def StatesWholeCardSaid : Prop := Claim7.holds Tryd.pinned (.plain (OpenSpec.ofChange statesWholeSpec)) statesWholeCard

/-- THE TIED CARD OF 'exegetelaw12.StatesItems'. -/
def statesItemsCard : Claim7 := { stood := { row := statesItemsRow, standIns := [], harness := (true, "fcad124930d6d9ab5d7e0dcd4c227ce85b5bb8d6661f36d7b7215a3f209a90a6"), looks := false }, kinds := [], alts := [], laidByText := true, laidKinds := [.data], laidTests := true, laidLooks := .later }
def StatesItemsCardSaid : Prop := Claim7.holds Tryd.pinned (.plain (OpenSpec.ofChange statesItemsSpec)) statesItemsCard

/-- THE TIED CARD OF 'exegetelaw12.StatesMemory'. -/
def statesMemoryCard : Claim7 := { stood := { row := statesMemoryRow, standIns := [], harness := (true, "fcad124930d6d9ab5d7e0dcd4c227ce85b5bb8d6661f36d7b7215a3f209a90a6"), looks := false }, kinds := [], alts := [], laidByText := true, laidKinds := [.data], laidTests := true, laidLooks := .later }
def StatesMemoryCardSaid : Prop := Claim7.holds Tryd.pinned (.plain (OpenSpec.ofChange statesMemorySpec)) statesMemoryCard

/-- THE SECOND FORM's CARD OF 'exegetelaw10.LangTells'. -/
def langTellsUptoCard : Claim7 := { stood := { row := langTellsUptoRow, standIns := [], harness := (true, "fcad124930d6d9ab5d7e0dcd4c227ce85b5bb8d6661f36d7b7215a3f209a90a6"), looks := false }, kinds := [], alts := [], laidByText := true, laidKinds := [.data], laidTests := true, laidLooks := .later }
def LangTellsUptoCardSaid : Prop := Claim7.holds Tryd.pinned (.plain (OpenSpec.upto langTellsSpec)) langTellsUptoCard

/-- THE SECOND FORM's CARD OF 'exegetelaw10.LangFew'. -/
def langFewUptoCard : Claim7 := { stood := { row := langFewUptoRow, standIns := [], harness := (true, "fcad124930d6d9ab5d7e0dcd4c227ce85b5bb8d6661f36d7b7215a3f209a90a6"), looks := false }, kinds := [], alts := [], laidByText := true, laidKinds := [.data], laidTests := true, laidLooks := .later }
def LangFewUptoCardSaid : Prop := Claim7.holds Tryd.pinned (.plain (OpenSpec.upto langFewSpec)) langFewUptoCard

/-- THE SECOND FORM's CARD OF 'exegetelaw12.StatesForms'. -/
def statesFormsUptoCard : Claim7 := { stood := { row := statesFormsUptoRow, standIns := [], harness := (true, "fcad124930d6d9ab5d7e0dcd4c227ce85b5bb8d6661f36d7b7215a3f209a90a6"), looks := false }, kinds := [], alts := [], laidByText := true, laidKinds := [.data], laidTests := true, laidLooks := .later }
def StatesFormsUptoCardSaid : Prop := Claim7.holds Tryd.pinned (.plain (OpenSpec.upto statesFormsSpec)) statesFormsUptoCard

/-- THE SECOND FORM's CARD OF 'exegetelaw12.StatesErrors'. -/
def statesErrorsUptoCard : Claim7 := { stood := { row := statesErrorsUptoRow, standIns := [], harness := (true, "fcad124930d6d9ab5d7e0dcd4c227ce85b5bb8d6661f36d7b7215a3f209a90a6"), looks := false }, kinds := [], alts := [], laidByText := true, laidKinds := [.data], laidTests := true, laidLooks := .later }
def StatesErrorsUptoCardSaid : Prop := Claim7.holds Tryd.pinned (.plain (OpenSpec.upto statesErrorsSpec)) statesErrorsUptoCard

/-- THE SECOND FORM's CARD OF 'exegetelaw12.StatesBudget'. -/
def statesBudgetUptoCard : Claim7 := { stood := { row := statesBudgetUptoRow, standIns := [], harness := (true, "fcad124930d6d9ab5d7e0dcd4c227ce85b5bb8d6661f36d7b7215a3f209a90a6"), looks := false }, kinds := [], alts := [], laidByText := true, laidKinds := [.data], laidTests := true, laidLooks := .later }
def StatesBudgetUptoCardSaid : Prop := Claim7.holds Tryd.pinned (.plain (OpenSpec.upto statesBudgetSpec)) statesBudgetUptoCard

/-- THE SECOND FORM's CARD OF 'exegetelaw12.StatesWhole'. -/
def statesWholeUptoCard : Claim7 := { stood := { row := statesWholeUptoRow, standIns := [], harness := (true, "fcad124930d6d9ab5d7e0dcd4c227ce85b5bb8d6661f36d7b7215a3f209a90a6"), looks := false }, kinds := [], alts := [], laidByText := true, laidKinds := [.data], laidTests := true, laidLooks := .later }
def StatesWholeUptoCardSaid : Prop := Claim7.holds Tryd.pinned (.plain (OpenSpec.upto statesWholeSpec)) statesWholeUptoCard

/-- THE SECOND FORM's CARD OF 'exegetelaw12.StatesItems'. -/
def statesItemsUptoCard : Claim7 := { stood := { row := statesItemsUptoRow, standIns := [], harness := (true, "fcad124930d6d9ab5d7e0dcd4c227ce85b5bb8d6661f36d7b7215a3f209a90a6"), looks := false }, kinds := [], alts := [], laidByText := true, laidKinds := [.data], laidTests := true, laidLooks := .later }
def StatesItemsUptoCardSaid : Prop := Claim7.holds Tryd.pinned (.plain (OpenSpec.upto statesItemsSpec)) statesItemsUptoCard

/-- THE SECOND FORM's CARD OF 'exegetelaw12.StatesMemory'. -/
def statesMemoryUptoCard : Claim7 := { stood := { row := statesMemoryUptoRow, standIns := [], harness := (true, "fcad124930d6d9ab5d7e0dcd4c227ce85b5bb8d6661f36d7b7215a3f209a90a6"), looks := false }, kinds := [], alts := [], laidByText := true, laidKinds := [.data], laidTests := true, laidLooks := .later }
def StatesMemoryUptoCardSaid : Prop := Claim7.holds Tryd.pinned (.plain (OpenSpec.upto statesMemorySpec)) statesMemoryUptoCard
end Rows
end Go.Proofs.YtejjdfmobiegdaaDoor
