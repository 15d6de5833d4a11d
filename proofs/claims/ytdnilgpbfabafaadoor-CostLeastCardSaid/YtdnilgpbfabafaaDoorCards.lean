/-
  DERIVED. GIVEN WITH THE SEED: THE CARDS: each row of YtdnilgpbfabafaaDoorRows.lean that lists a variable, with what it lists TIED to the program's text (the seventh form; the later family's looks); each row that meets fmt, with fmt's text TOLD by the authors' own Lean function (tested against real Go, not proved from fmt's source: count such statements apart). THE CARD IS WHAT COUNTS. Prove the row's statement (the work); the ties are given (YtdnilgpbfabafaaDoorTie.lean); close each card by the builder's one call (the guide's Derived/Test/ToyasCard.lean, 'card_holds'). Laid BY PROGRAM, IN A SANDBOX (cutbox-door.mjs). By AI agents, Wed Nov 11 2026. No macro, syntax, notation, axiom, sorry.
-/
import Derived.Test.YtdnilgpbfabafaaDoorRows
import GoSem.ClaimSeven
namespace Go.Proofs.YtdnilgpbfabafaaDoor
namespace Rows

/-- THE TIED CARD OF 'exegetelaw01.CostParts'. -/
def costPartsCard : Claim7 := { stood := { row := costPartsRow, standIns := [], harness := (true, "d04c64b3383a19b76635d300596932b28a11d2ebabeeb3aebbd9f646b2f1d041"), looks := false }, kinds := [], alts := [], laidByText := true, laidKinds := [.data, .data, .data], laidTests := true, laidLooks := .later }
def CostPartsCardSaid : Prop := Claim7.holds Tryd.pinned (.plain (OpenSpec.ofChange costPartsSpec)) costPartsCard

/-- THE TIED CARD OF 'exegetelaw01.CostLeast'. -/
def costLeastCard : Claim7 := { stood := { row := costLeastRow, standIns := [], harness := (true, "d04c64b3383a19b76635d300596932b28a11d2ebabeeb3aebbd9f646b2f1d041"), looks := false }, kinds := [], alts := [], laidByText := true, laidKinds := [.data, .data, .data], laidTests := true, laidLooks := .later }
def CostLeastCardSaid : Prop := Claim7.holds Tryd.pinned (.plain (OpenSpec.ofChange costLeastSpec)) costLeastCard

/-- THE TIED CARD OF 'exegetelaw01.CostTells'. -/
def costTellsCard : Claim7 := { stood := { row := costTellsRow, standIns := [], harness := (true, "d04c64b3383a19b76635d300596932b28a11d2ebabeeb3aebbd9f646b2f1d041"), looks := false }, kinds := [], alts := [], laidByText := true, laidKinds := [.data, .data, .data], laidTests := true, laidLooks := .later }
def CostTellsCardSaid : Prop := Claim7.holds Tryd.pinned (.plain (OpenSpec.ofChange costTellsSpec)) costTellsCard

/-- THE TIED CARD OF 'exegetelaw01.CostEdges'. -/
def costEdgesCard : Claim7 := { stood := { row := costEdgesRow, standIns := [], harness := (true, "d04c64b3383a19b76635d300596932b28a11d2ebabeeb3aebbd9f646b2f1d041"), looks := false }, kinds := [], alts := [], laidByText := true, laidKinds := [.data, .data, .data], laidTests := true, laidLooks := .later }
def CostEdgesCardSaid : Prop := Claim7.holds Tryd.pinned (.plain (OpenSpec.ofChange costEdgesSpec)) costEdgesCard

/-- THE TIED CARD OF 'exegetelaw01.CostSums'. -/
def costSumsCard : Claim7 := { stood := { row := costSumsRow, standIns := [], harness := (true, "d04c64b3383a19b76635d300596932b28a11d2ebabeeb3aebbd9f646b2f1d041"), looks := false }, kinds := [], alts := [], laidByText := true, laidKinds := [.data, .data, .data], laidTests := true, laidLooks := .later }
def CostSumsCardSaid : Prop := Claim7.holds Tryd.pinned (.plain (OpenSpec.ofChange costSumsSpec)) costSumsCard

/-- THE SECOND FORM's CARD OF 'exegetelaw01.CostParts'. -/
def costPartsUptoCard : Claim7 := { stood := { row := costPartsUptoRow, standIns := [], harness := (true, "d04c64b3383a19b76635d300596932b28a11d2ebabeeb3aebbd9f646b2f1d041"), looks := false }, kinds := [], alts := [], laidByText := true, laidKinds := [.data, .data, .data], laidTests := true, laidLooks := .later }
def CostPartsUptoCardSaid : Prop := Claim7.holds Tryd.pinned (.plain (OpenSpec.upto costPartsSpec)) costPartsUptoCard

/-- THE SECOND FORM's CARD OF 'exegetelaw01.CostLeast'. -/
def costLeastUptoCard : Claim7 := { stood := { row := costLeastUptoRow, standIns := [], harness := (true, "d04c64b3383a19b76635d300596932b28a11d2ebabeeb3aebbd9f646b2f1d041"), looks := false }, kinds := [], alts := [], laidByText := true, laidKinds := [.data, .data, .data], laidTests := true, laidLooks := .later }
def CostLeastUptoCardSaid : Prop := Claim7.holds Tryd.pinned (.plain (OpenSpec.upto costLeastSpec)) costLeastUptoCard

/-- THE SECOND FORM's CARD OF 'exegetelaw01.CostTells'. -/
def costTellsUptoCard : Claim7 := { stood := { row := costTellsUptoRow, standIns := [], harness := (true, "d04c64b3383a19b76635d300596932b28a11d2ebabeeb3aebbd9f646b2f1d041"), looks := false }, kinds := [], alts := [], laidByText := true, laidKinds := [.data, .data, .data], laidTests := true, laidLooks := .later }
def CostTellsUptoCardSaid : Prop := Claim7.holds Tryd.pinned (.plain (OpenSpec.upto costTellsSpec)) costTellsUptoCard

/-- THE SECOND FORM's CARD OF 'exegetelaw01.CostEdges'. -/
def costEdgesUptoCard : Claim7 := { stood := { row := costEdgesUptoRow, standIns := [], harness := (true, "d04c64b3383a19b76635d300596932b28a11d2ebabeeb3aebbd9f646b2f1d041"), looks := false }, kinds := [], alts := [], laidByText := true, laidKinds := [.data, .data, .data], laidTests := true, laidLooks := .later }
def CostEdgesUptoCardSaid : Prop := Claim7.holds Tryd.pinned (.plain (OpenSpec.upto costEdgesSpec)) costEdgesUptoCard

/-- THE SECOND FORM's CARD OF 'exegetelaw01.CostSums'. -/
def costSumsUptoCard : Claim7 := { stood := { row := costSumsUptoRow, standIns := [], harness := (true, "d04c64b3383a19b76635d300596932b28a11d2ebabeeb3aebbd9f646b2f1d041"), looks := false }, kinds := [], alts := [], laidByText := true, laidKinds := [.data, .data, .data], laidTests := true, laidLooks := .later }
def CostSumsUptoCardSaid : Prop := Claim7.holds Tryd.pinned (.plain (OpenSpec.upto costSumsSpec)) costSumsUptoCard
end Rows
end Go.Proofs.YtdnilgpbfabafaaDoor
