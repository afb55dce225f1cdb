/-
  DERIVED. GIVEN WITH THE SEED: THE CARDS: each row of YtiaendggmamnkaaGreatDoorRows.lean that lists a variable, with what it lists TIED to the program's text (the seventh form; the later family's looks); each row that meets fmt, with fmt's text TOLD by the authors' own Lean function (tested against real Go, not proved from fmt's source: count such statements apart). THE CARD IS WHAT COUNTS. Prove the row's statement (the work); the ties are given (YtiaendggmamnkaaGreatDoorTie.lean); close each card by the builder's one call (the guide's Derived/Test/ToyasCard.lean, 'card_holds'). Laid BY PROGRAM, IN A SANDBOX (cutbox-door.mjs). By AI agents, Wed Nov 11 2026. No macro, syntax, notation, axiom, sorry.
-/
import Derived.Test.YtiaendggmamnkaaGreatDoorRows
import GoSem.ClaimSeven
namespace Go.Proofs.YtiaendggmamnkaaGreatDoor
namespace Rows

/-- THE TIED CARD OF 'modelchecklaw16.AstCheck'. -/
def astCheckCard : Claim7 := { stood := { row := astCheckRow, standIns := [], harness := (true, "dcb54cb11f3fb7e4f3b4139b0d5f9bc3799566b8e8a99ed9bba26944c21e9c92"), looks := true }, kinds := [], alts := [], laidByText := true, laidKinds := [.data], laidTests := true, laidLooks := .later }
def AstCheckCardSaid : Prop := Claim7.holds Tryz.pinned (.plain (OpenSpec.ofChange astCheckSpec)) astCheckCard

/-- THE TIED CARD OF 'modelchecklaw16.AstExpr'. -/
def astExprCard : Claim7 := { stood := { row := astExprRow, standIns := [], harness := (true, "dcb54cb11f3fb7e4f3b4139b0d5f9bc3799566b8e8a99ed9bba26944c21e9c92"), looks := true }, kinds := [], alts := [], laidByText := true, laidKinds := [.data], laidTests := true, laidLooks := .later }
def AstExprCardSaid : Prop := Claim7.holds Tryz.pinned (.plain (OpenSpec.ofChange astExprSpec)) astExprCard

/-- THE TIED CARD OF 'modelchecklaw16.AstShape'. -/
def astShapeCard : Claim7 := { stood := { row := astShapeRow, standIns := [], harness := (true, "dcb54cb11f3fb7e4f3b4139b0d5f9bc3799566b8e8a99ed9bba26944c21e9c92"), looks := true }, kinds := [], alts := [], laidByText := true, laidKinds := [.data], laidTests := true, laidLooks := .later }
def AstShapeCardSaid : Prop := Claim7.holds Tryz.pinned (.plain (OpenSpec.ofChange astShapeSpec)) astShapeCard

/-- THE TIED CARD OF 'modelchecklaw16.AstEqual'. -/
def astEqualCard : Claim7 := { stood := { row := astEqualRow, standIns := [], harness := (true, "dcb54cb11f3fb7e4f3b4139b0d5f9bc3799566b8e8a99ed9bba26944c21e9c92"), looks := true }, kinds := [], alts := [], laidByText := true, laidKinds := [.data], laidTests := true, laidLooks := .later }
def AstEqualCardSaid : Prop := Claim7.holds Tryz.pinned (.plain (OpenSpec.ofChange astEqualSpec)) astEqualCard

/-- THE TIED CARD OF 'modelchecklaw16.AstLocals'. -/
def astLocalsCard : Claim7 := { stood := { row := astLocalsRow, standIns := [], harness := (true, "dcb54cb11f3fb7e4f3b4139b0d5f9bc3799566b8e8a99ed9bba26944c21e9c92"), looks := true }, kinds := [], alts := [], laidByText := true, laidKinds := [.data], laidTests := true, laidLooks := .later }
def AstLocalsCardSaid : Prop := Claim7.holds Tryz.pinned (.plain (OpenSpec.ofChange astLocalsSpec)) astLocalsCard

/-- THE TIED CARD OF 'modelchecklaw16.AstBlocks'. -/
def astBlocksCard : Claim7 := { stood := { row := astBlocksRow, standIns := [], harness := (true, "dcb54cb11f3fb7e4f3b4139b0d5f9bc3799566b8e8a99ed9bba26944c21e9c92"), looks := true }, kinds := [], alts := [], laidByText := true, laidKinds := [.data], laidTests := true, laidLooks := .later }
def AstBlocksCardSaid : Prop := Claim7.holds Tryz.pinned (.plain (OpenSpec.ofChange astBlocksSpec)) astBlocksCard

/-- THE TIED CARD OF 'modelchecklaw18.FormatUnits'. -/
def formatUnitsCard : Claim7 := { stood := { row := formatUnitsRow, standIns := [], harness := (true, "dcb54cb11f3fb7e4f3b4139b0d5f9bc3799566b8e8a99ed9bba26944c21e9c92"), looks := true }, kinds := [], alts := [], laidByText := true, laidKinds := [.data, .data, .data, .data, .data, .data, .data], laidTests := true, laidLooks := .later }
def FormatUnitsCardSaid : Prop := Claim7.holds Tryz.pinned (.plain (OpenSpec.ofChange formatUnitsSpec)) formatUnitsCard

/-- THE TIED CARD OF 'modelchecklaw18.FormatExprs'. -/
def formatExprsCard : Claim7 := { stood := { row := formatExprsRow, standIns := [], harness := (true, "dcb54cb11f3fb7e4f3b4139b0d5f9bc3799566b8e8a99ed9bba26944c21e9c92"), looks := true }, kinds := [], alts := [], laidByText := true, laidKinds := [.data, .data, .data, .data, .data, .data, .data], laidTests := true, laidLooks := .later }
def FormatExprsCardSaid : Prop := Claim7.holds Tryz.pinned (.plain (OpenSpec.ofChange formatExprsSpec)) formatExprsCard

/-- THE TIED CARD OF 'modelchecklaw18.FormatRoundTrip'. -/
def formatRoundTripCard : Claim7 := { stood := { row := formatRoundTripRow, standIns := [], harness := (true, "dcb54cb11f3fb7e4f3b4139b0d5f9bc3799566b8e8a99ed9bba26944c21e9c92"), looks := true }, kinds := [], alts := [], laidByText := true, laidKinds := [.data, .data, .data, .sentinel, .sentinel, .data, .data, .data, .data, .widerDeep], laidTests := true, laidLooks := .later }
def FormatRoundTripCardSaid : Prop := Claim7.holds Tryz.pinned (.plain (OpenSpec.ofChange formatRoundTripSpec)) formatRoundTripCard

/-- THE TIED CARD OF 'modelchecklaw18.FormatBack'. -/
def formatBackCard : Claim7 := { stood := { row := formatBackRow, standIns := [], harness := (true, "dcb54cb11f3fb7e4f3b4139b0d5f9bc3799566b8e8a99ed9bba26944c21e9c92"), looks := true }, kinds := [], alts := [], laidByText := true, laidKinds := [.data, .data, .data, .sentinel, .sentinel, .data, .data, .data, .data], laidTests := true, laidLooks := .later }
def FormatBackCardSaid : Prop := Claim7.holds Tryz.pinned (.plain (OpenSpec.ofChange formatBackSpec)) formatBackCard

/-- THE TIED CARD OF 'modelchecklaw18.FormatLayout'. -/
def formatLayoutCard : Claim7 := { stood := { row := formatLayoutRow, standIns := [], harness := (true, "dcb54cb11f3fb7e4f3b4139b0d5f9bc3799566b8e8a99ed9bba26944c21e9c92"), looks := true }, kinds := [], alts := [], laidByText := true, laidKinds := [.data, .data, .data, .data, .data, .data, .data], laidTests := true, laidLooks := .later }
def FormatLayoutCardSaid : Prop := Claim7.holds Tryz.pinned (.plain (OpenSpec.ofChange formatLayoutSpec)) formatLayoutCard

/-- THE SECOND FORM's CARD OF 'modelchecklaw16.AstCheck'. -/
def astCheckUptoCard : Claim7 := { stood := { row := astCheckUptoRow, standIns := [], harness := (true, "dcb54cb11f3fb7e4f3b4139b0d5f9bc3799566b8e8a99ed9bba26944c21e9c92"), looks := true }, kinds := [], alts := [], laidByText := true, laidKinds := [.data], laidTests := true, laidLooks := .later }
def AstCheckUptoCardSaid : Prop := Claim7.holds Tryz.pinned (.plain (OpenSpec.upto astCheckSpec)) astCheckUptoCard

/-- THE SECOND FORM's CARD OF 'modelchecklaw16.AstExpr'. -/
def astExprUptoCard : Claim7 := { stood := { row := astExprUptoRow, standIns := [], harness := (true, "dcb54cb11f3fb7e4f3b4139b0d5f9bc3799566b8e8a99ed9bba26944c21e9c92"), looks := true }, kinds := [], alts := [], laidByText := true, laidKinds := [.data], laidTests := true, laidLooks := .later }
def AstExprUptoCardSaid : Prop := Claim7.holds Tryz.pinned (.plain (OpenSpec.upto astExprSpec)) astExprUptoCard

/-- THE SECOND FORM's CARD OF 'modelchecklaw16.AstShape'. -/
def astShapeUptoCard : Claim7 := { stood := { row := astShapeUptoRow, standIns := [], harness := (true, "dcb54cb11f3fb7e4f3b4139b0d5f9bc3799566b8e8a99ed9bba26944c21e9c92"), looks := true }, kinds := [], alts := [], laidByText := true, laidKinds := [.data], laidTests := true, laidLooks := .later }
def AstShapeUptoCardSaid : Prop := Claim7.holds Tryz.pinned (.plain (OpenSpec.upto astShapeSpec)) astShapeUptoCard

/-- THE SECOND FORM's CARD OF 'modelchecklaw16.AstEqual'. -/
def astEqualUptoCard : Claim7 := { stood := { row := astEqualUptoRow, standIns := [], harness := (true, "dcb54cb11f3fb7e4f3b4139b0d5f9bc3799566b8e8a99ed9bba26944c21e9c92"), looks := true }, kinds := [], alts := [], laidByText := true, laidKinds := [.data], laidTests := true, laidLooks := .later }
def AstEqualUptoCardSaid : Prop := Claim7.holds Tryz.pinned (.plain (OpenSpec.upto astEqualSpec)) astEqualUptoCard

/-- THE SECOND FORM's CARD OF 'modelchecklaw16.AstLocals'. -/
def astLocalsUptoCard : Claim7 := { stood := { row := astLocalsUptoRow, standIns := [], harness := (true, "dcb54cb11f3fb7e4f3b4139b0d5f9bc3799566b8e8a99ed9bba26944c21e9c92"), looks := true }, kinds := [], alts := [], laidByText := true, laidKinds := [.data], laidTests := true, laidLooks := .later }
def AstLocalsUptoCardSaid : Prop := Claim7.holds Tryz.pinned (.plain (OpenSpec.upto astLocalsSpec)) astLocalsUptoCard

/-- THE SECOND FORM's CARD OF 'modelchecklaw16.AstBlocks'. -/
def astBlocksUptoCard : Claim7 := { stood := { row := astBlocksUptoRow, standIns := [], harness := (true, "dcb54cb11f3fb7e4f3b4139b0d5f9bc3799566b8e8a99ed9bba26944c21e9c92"), looks := true }, kinds := [], alts := [], laidByText := true, laidKinds := [.data], laidTests := true, laidLooks := .later }
def AstBlocksUptoCardSaid : Prop := Claim7.holds Tryz.pinned (.plain (OpenSpec.upto astBlocksSpec)) astBlocksUptoCard

/-- THE SECOND FORM's CARD OF 'modelchecklaw18.FormatUnits'. -/
def formatUnitsUptoCard : Claim7 := { stood := { row := formatUnitsUptoRow, standIns := [], harness := (true, "dcb54cb11f3fb7e4f3b4139b0d5f9bc3799566b8e8a99ed9bba26944c21e9c92"), looks := true }, kinds := [], alts := [], laidByText := true, laidKinds := [.data, .data, .data, .data, .data, .data, .data], laidTests := true, laidLooks := .later }
def FormatUnitsUptoCardSaid : Prop := Claim7.holds Tryz.pinned (.plain (OpenSpec.upto formatUnitsSpec)) formatUnitsUptoCard

/-- THE SECOND FORM's CARD OF 'modelchecklaw18.FormatExprs'. -/
def formatExprsUptoCard : Claim7 := { stood := { row := formatExprsUptoRow, standIns := [], harness := (true, "dcb54cb11f3fb7e4f3b4139b0d5f9bc3799566b8e8a99ed9bba26944c21e9c92"), looks := true }, kinds := [], alts := [], laidByText := true, laidKinds := [.data, .data, .data, .data, .data, .data, .data], laidTests := true, laidLooks := .later }
def FormatExprsUptoCardSaid : Prop := Claim7.holds Tryz.pinned (.plain (OpenSpec.upto formatExprsSpec)) formatExprsUptoCard

/-- THE SECOND FORM's CARD OF 'modelchecklaw18.FormatRoundTrip'. -/
def formatRoundTripUptoCard : Claim7 := { stood := { row := formatRoundTripUptoRow, standIns := [], harness := (true, "dcb54cb11f3fb7e4f3b4139b0d5f9bc3799566b8e8a99ed9bba26944c21e9c92"), looks := true }, kinds := [], alts := [], laidByText := true, laidKinds := [.data, .data, .data, .sentinel, .sentinel, .data, .data, .data, .data, .widerDeep], laidTests := true, laidLooks := .later }
def FormatRoundTripUptoCardSaid : Prop := Claim7.holds Tryz.pinned (.plain (OpenSpec.upto formatRoundTripSpec)) formatRoundTripUptoCard

/-- THE SECOND FORM's CARD OF 'modelchecklaw18.FormatBack'. -/
def formatBackUptoCard : Claim7 := { stood := { row := formatBackUptoRow, standIns := [], harness := (true, "dcb54cb11f3fb7e4f3b4139b0d5f9bc3799566b8e8a99ed9bba26944c21e9c92"), looks := true }, kinds := [], alts := [], laidByText := true, laidKinds := [.data, .data, .data, .sentinel, .sentinel, .data, .data, .data, .data], laidTests := true, laidLooks := .later }
def FormatBackUptoCardSaid : Prop := Claim7.holds Tryz.pinned (.plain (OpenSpec.upto formatBackSpec)) formatBackUptoCard

/-- THE SECOND FORM's CARD OF 'modelchecklaw18.FormatLayout'. -/
def formatLayoutUptoCard : Claim7 := { stood := { row := formatLayoutUptoRow, standIns := [], harness := (true, "dcb54cb11f3fb7e4f3b4139b0d5f9bc3799566b8e8a99ed9bba26944c21e9c92"), looks := true }, kinds := [], alts := [], laidByText := true, laidKinds := [.data, .data, .data, .data, .data, .data, .data], laidTests := true, laidLooks := .later }
def FormatLayoutUptoCardSaid : Prop := Claim7.holds Tryz.pinned (.plain (OpenSpec.upto formatLayoutSpec)) formatLayoutUptoCard
end Rows
end Go.Proofs.YtiaendggmamnkaaGreatDoor
