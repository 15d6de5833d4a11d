/-
  DERIVED. GIVEN WITH THE SEED: THE CARDS: each row of YtbliobeibfecaaaDoorRows.lean that lists a variable, with what it lists TIED to the program's text (the seventh form; the later family's looks); each row that meets fmt, with fmt's text TOLD by the authors' own Lean function (tested against real Go, not proved from fmt's source: count such statements apart). THE CARD IS WHAT COUNTS. Prove the row's statement (the work); the ties are given (YtbliobeibfecaaaDoorTie.lean); close each card by the builder's one call (the guide's Derived/Test/ToyasCard.lean, 'card_holds'). Laid BY PROGRAM, IN A SANDBOX (cutbox-door.mjs). By AI agents, Wed Nov 11 2026. No macro, syntax, notation, axiom, sorry.
-/
import Derived.Test.YtbliobeibfecaaaDoorRows
import GoSem.ClaimSeven
namespace Go.Proofs.YtbliobeibfecaaaDoor
namespace Rows

/-- THE TIED CARD OF 'exegetelaw10.LangTells'. -/
def langTellsCard : Claim7 := { stood := { row := langTellsRow, standIns := [], harness := (true, "790e962eda30939a275190bd56a1165a8a08bfff9f4830f3402045ddb4403fa3"), looks := false }, kinds := [], alts := [], laidByText := true, laidKinds := [.data], laidTests := true, laidLooks := .later }
def LangTellsCardSaid : Prop := Claim7.holds Tryd.pinned (.plain (OpenSpec.ofChange langTellsSpec)) langTellsCard

/-- THE TIED CARD OF 'exegetelaw10.LangFew'. -/
def langFewCard : Claim7 := { stood := { row := langFewRow, standIns := [], harness := (true, "790e962eda30939a275190bd56a1165a8a08bfff9f4830f3402045ddb4403fa3"), looks := false }, kinds := [], alts := [], laidByText := true, laidKinds := [.data], laidTests := true, laidLooks := .later }
def LangFewCardSaid : Prop := Claim7.holds Tryd.pinned (.plain (OpenSpec.ofChange langFewSpec)) langFewCard

/-- THE TIED CARD OF 'exegetelaw11.ItemForms'. -/
def itemFormsCard : Claim7 := { stood := { row := itemFormsRow, standIns := [], harness := (true, "790e962eda30939a275190bd56a1165a8a08bfff9f4830f3402045ddb4403fa3"), looks := false }, kinds := [], alts := [], laidByText := true, laidKinds := [.data], laidTests := true, laidLooks := .later }
def ItemFormsCardSaid : Prop := Claim7.holds Tryd.pinned (.plain (OpenSpec.ofChange itemFormsSpec)) itemFormsCard

/-- THE TIED CARD OF 'exegetelaw11.ItemParts'. -/
def itemPartsCard : Claim7 := { stood := { row := itemPartsRow, standIns := [], harness := (true, "790e962eda30939a275190bd56a1165a8a08bfff9f4830f3402045ddb4403fa3"), looks := false }, kinds := [], alts := [], laidByText := true, laidKinds := [.data], laidTests := true, laidLooks := .later }
def ItemPartsCardSaid : Prop := Claim7.holds Tryd.pinned (.plain (OpenSpec.ofChange itemPartsSpec)) itemPartsCard

/-- THE TIED CARD OF 'exegetelaw11.ItemCloses'. -/
def itemClosesCard : Claim7 := { stood := { row := itemClosesRow, standIns := [], harness := (true, "790e962eda30939a275190bd56a1165a8a08bfff9f4830f3402045ddb4403fa3"), looks := false }, kinds := [], alts := [], laidByText := true, laidKinds := [.data], laidTests := true, laidLooks := .later }
def ItemClosesCardSaid : Prop := Claim7.holds Tryd.pinned (.plain (OpenSpec.ofChange itemClosesSpec)) itemClosesCard

/-- THE TIED CARD OF 'exegetelaw11.ItemOrder'. -/
def itemOrderCard : Claim7 := { stood := { row := itemOrderRow, standIns := [], harness := (true, "790e962eda30939a275190bd56a1165a8a08bfff9f4830f3402045ddb4403fa3"), looks := false }, kinds := [], alts := [], laidByText := true, laidKinds := [.data], laidTests := true, laidLooks := .later }
def ItemOrderCardSaid : Prop := Claim7.holds Tryd.pinned (.plain (OpenSpec.ofChange itemOrderSpec)) itemOrderCard

/-- THE SECOND FORM's CARD OF 'exegetelaw10.LangTells'. -/
def langTellsUptoCard : Claim7 := { stood := { row := langTellsUptoRow, standIns := [], harness := (true, "790e962eda30939a275190bd56a1165a8a08bfff9f4830f3402045ddb4403fa3"), looks := false }, kinds := [], alts := [], laidByText := true, laidKinds := [.data], laidTests := true, laidLooks := .later }
def LangTellsUptoCardSaid : Prop := Claim7.holds Tryd.pinned (.plain (OpenSpec.upto langTellsSpec)) langTellsUptoCard

/-- THE SECOND FORM's CARD OF 'exegetelaw10.LangFew'. -/
def langFewUptoCard : Claim7 := { stood := { row := langFewUptoRow, standIns := [], harness := (true, "790e962eda30939a275190bd56a1165a8a08bfff9f4830f3402045ddb4403fa3"), looks := false }, kinds := [], alts := [], laidByText := true, laidKinds := [.data], laidTests := true, laidLooks := .later }
def LangFewUptoCardSaid : Prop := Claim7.holds Tryd.pinned (.plain (OpenSpec.upto langFewSpec)) langFewUptoCard

/-- THE SECOND FORM's CARD OF 'exegetelaw11.ItemForms'. -/
def itemFormsUptoCard : Claim7 := { stood := { row := itemFormsUptoRow, standIns := [], harness := (true, "790e962eda30939a275190bd56a1165a8a08bfff9f4830f3402045ddb4403fa3"), looks := false }, kinds := [], alts := [], laidByText := true, laidKinds := [.data], laidTests := true, laidLooks := .later }
def ItemFormsUptoCardSaid : Prop := Claim7.holds Tryd.pinned (.plain (OpenSpec.upto itemFormsSpec)) itemFormsUptoCard

/-- THE SECOND FORM's CARD OF 'exegetelaw11.ItemParts'. -/
def itemPartsUptoCard : Claim7 := { stood := { row := itemPartsUptoRow, standIns := [], harness := (true, "790e962eda30939a275190bd56a1165a8a08bfff9f4830f3402045ddb4403fa3"), looks := false }, kinds := [], alts := [], laidByText := true, laidKinds := [.data], laidTests := true, laidLooks := .later }
def ItemPartsUptoCardSaid : Prop := Claim7.holds Tryd.pinned (.plain (OpenSpec.upto itemPartsSpec)) itemPartsUptoCard

/-- THE SECOND FORM's CARD OF 'exegetelaw11.ItemCloses'. -/
def itemClosesUptoCard : Claim7 := { stood := { row := itemClosesUptoRow, standIns := [], harness := (true, "790e962eda30939a275190bd56a1165a8a08bfff9f4830f3402045ddb4403fa3"), looks := false }, kinds := [], alts := [], laidByText := true, laidKinds := [.data], laidTests := true, laidLooks := .later }
def ItemClosesUptoCardSaid : Prop := Claim7.holds Tryd.pinned (.plain (OpenSpec.upto itemClosesSpec)) itemClosesUptoCard

/-- THE SECOND FORM's CARD OF 'exegetelaw11.ItemOrder'. -/
def itemOrderUptoCard : Claim7 := { stood := { row := itemOrderUptoRow, standIns := [], harness := (true, "790e962eda30939a275190bd56a1165a8a08bfff9f4830f3402045ddb4403fa3"), looks := false }, kinds := [], alts := [], laidByText := true, laidKinds := [.data], laidTests := true, laidLooks := .later }
def ItemOrderUptoCardSaid : Prop := Claim7.holds Tryd.pinned (.plain (OpenSpec.upto itemOrderSpec)) itemOrderUptoCard
end Rows
end Go.Proofs.YtbliobeibfecaaaDoor
