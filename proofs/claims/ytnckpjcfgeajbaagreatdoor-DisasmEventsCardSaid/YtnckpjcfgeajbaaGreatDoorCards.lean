/-
  DERIVED. GIVEN WITH THE SEED: THE CARDS: each row of YtnckpjcfgeajbaaGreatDoorRows.lean that lists a variable, with what it lists TIED to the program's text (the seventh form; the later family's looks); each row that meets fmt, with fmt's text TOLD by the authors' own Lean function (tested against real Go, not proved from fmt's source: count such statements apart). THE CARD IS WHAT COUNTS. Prove the row's statement (the work); the ties are given (YtnckpjcfgeajbaaGreatDoorTie.lean); close each card by the builder's one call (the guide's Derived/Test/ToyasCard.lean, 'card_holds'). Laid BY PROGRAM, IN A SANDBOX (cutbox-door.mjs). By AI agents, Wed Nov 11 2026. No macro, syntax, notation, axiom, sorry.
-/
import Derived.Test.YtnckpjcfgeajbaaGreatDoorRows
import GoSem.ClaimSeven
namespace Go.Proofs.YtnckpjcfgeajbaaGreatDoor
namespace Rows

/-- THE TIED CARD OF 'modelchecklaw10.AsmParse'. -/
def asmParseCard : Claim7 := { stood := { row := asmParseRow, standIns := [], harness := (true, "49dbedfed38a6f670b37f4c6e83bba190fe192cd3473b0fe8277fd4734914843"), looks := true }, kinds := [], alts := [], laidByText := true, laidKinds := [.data, .data, .data, .sentinel, .sentinel, .data, .data, .data, .data], laidTests := true, laidLooks := .later }
def AsmParseCardSaid : Prop := Claim7.holds Tryz.pinned (.plain (OpenSpec.ofChange asmParseSpec)) asmParseCard

/-- THE TIED CARD OF 'modelchecklaw10.AsmInstruction'. -/
def asmInstructionCard : Claim7 := { stood := { row := asmInstructionRow, standIns := [], harness := (true, "49dbedfed38a6f670b37f4c6e83bba190fe192cd3473b0fe8277fd4734914843"), looks := true }, kinds := [], alts := [], laidByText := true, laidKinds := [.data, .data, .data, .sentinel, .sentinel, .data, .data, .data, .data], laidTests := true, laidLooks := .later }
def AsmInstructionCardSaid : Prop := Claim7.holds Tryz.pinned (.plain (OpenSpec.ofChange asmInstructionSpec)) asmInstructionCard

/-- THE TIED CARD OF 'modelchecklaw10.AsmSpacing'. -/
def asmSpacingCard : Claim7 := { stood := { row := asmSpacingRow, standIns := [], harness := (true, "49dbedfed38a6f670b37f4c6e83bba190fe192cd3473b0fe8277fd4734914843"), looks := true }, kinds := [], alts := [], laidByText := true, laidKinds := [.data, .data, .data, .sentinel, .sentinel, .data, .data, .data, .data], laidTests := true, laidLooks := .later }
def AsmSpacingCardSaid : Prop := Claim7.holds Tryz.pinned (.plain (OpenSpec.ofChange asmSpacingSpec)) asmSpacingCard

/-- THE TIED CARD OF 'modelchecklaw10.AsmResult'. -/
def asmResultCard : Claim7 := { stood := { row := asmResultRow, standIns := [], harness := (true, "49dbedfed38a6f670b37f4c6e83bba190fe192cd3473b0fe8277fd4734914843"), looks := true }, kinds := [], alts := [], laidByText := true, laidKinds := [.data, .data, .data, .sentinel, .sentinel, .data, .data, .data, .data], laidTests := true, laidLooks := .later }
def AsmResultCardSaid : Prop := Claim7.holds Tryz.pinned (.plain (OpenSpec.ofChange asmResultSpec)) asmResultCard

/-- THE TIED CARD OF 'modelchecklaw11.DisasmPrograms'. -/
def disasmProgramsCard : Claim7 := { stood := { row := disasmProgramsRow, standIns := [], harness := (true, "49dbedfed38a6f670b37f4c6e83bba190fe192cd3473b0fe8277fd4734914843"), looks := true }, kinds := [], alts := [], laidByText := true, laidKinds := [.data, .data, .data, .data, .data, .data, .data], laidTests := true, laidLooks := .later }
def DisasmProgramsCardSaid : Prop := Claim7.holds Tryz.pinned (.plain (OpenSpec.ofChange disasmProgramsSpec)) disasmProgramsCard

/-- THE TIED CARD OF 'modelchecklaw11.DisasmInstructions'. -/
def disasmInstructionsCard : Claim7 := { stood := { row := disasmInstructionsRow, standIns := [], harness := (true, "49dbedfed38a6f670b37f4c6e83bba190fe192cd3473b0fe8277fd4734914843"), looks := true }, kinds := [], alts := [], laidByText := true, laidKinds := [.data, .data, .data, .data, .data, .data, .data], laidTests := true, laidLooks := .later }
def DisasmInstructionsCardSaid : Prop := Claim7.holds Tryz.pinned (.plain (OpenSpec.ofChange disasmInstructionsSpec)) disasmInstructionsCard

/-- THE TIED CARD OF 'modelchecklaw11.DisasmEvents'. -/
def disasmEventsCard : Claim7 := { stood := { row := disasmEventsRow, standIns := [], harness := (true, "49dbedfed38a6f670b37f4c6e83bba190fe192cd3473b0fe8277fd4734914843"), looks := true }, kinds := [], alts := [], laidByText := true, laidKinds := [.data, .data, .data, .data, .data, .data, .data], laidTests := true, laidLooks := .later }
def DisasmEventsCardSaid : Prop := Claim7.holds Tryz.pinned (.plain (OpenSpec.ofChange disasmEventsSpec)) disasmEventsCard

/-- THE TIED CARD OF 'modelchecklaw11.DisasmRoundTrip'. -/
def disasmRoundTripCard : Claim7 := { stood := { row := disasmRoundTripRow, standIns := [], harness := (true, "49dbedfed38a6f670b37f4c6e83bba190fe192cd3473b0fe8277fd4734914843"), looks := true }, kinds := [], alts := [], laidByText := true, laidKinds := [.data, .data, .data, .sentinel, .sentinel, .data, .data, .data, .data, .data], laidTests := true, laidLooks := .later }
def DisasmRoundTripCardSaid : Prop := Claim7.holds Tryz.pinned (.plain (OpenSpec.ofChange disasmRoundTripSpec)) disasmRoundTripCard

/-- THE SECOND FORM's CARD OF 'modelchecklaw10.AsmParse'. -/
def asmParseUptoCard : Claim7 := { stood := { row := asmParseUptoRow, standIns := [], harness := (true, "49dbedfed38a6f670b37f4c6e83bba190fe192cd3473b0fe8277fd4734914843"), looks := true }, kinds := [], alts := [], laidByText := true, laidKinds := [.data, .data, .data, .sentinel, .sentinel, .data, .data, .data, .data], laidTests := true, laidLooks := .later }
def AsmParseUptoCardSaid : Prop := Claim7.holds Tryz.pinned (.plain (OpenSpec.upto asmParseSpec)) asmParseUptoCard

/-- THE SECOND FORM's CARD OF 'modelchecklaw10.AsmInstruction'. -/
def asmInstructionUptoCard : Claim7 := { stood := { row := asmInstructionUptoRow, standIns := [], harness := (true, "49dbedfed38a6f670b37f4c6e83bba190fe192cd3473b0fe8277fd4734914843"), looks := true }, kinds := [], alts := [], laidByText := true, laidKinds := [.data, .data, .data, .sentinel, .sentinel, .data, .data, .data, .data], laidTests := true, laidLooks := .later }
def AsmInstructionUptoCardSaid : Prop := Claim7.holds Tryz.pinned (.plain (OpenSpec.upto asmInstructionSpec)) asmInstructionUptoCard

/-- THE SECOND FORM's CARD OF 'modelchecklaw10.AsmSpacing'. -/
def asmSpacingUptoCard : Claim7 := { stood := { row := asmSpacingUptoRow, standIns := [], harness := (true, "49dbedfed38a6f670b37f4c6e83bba190fe192cd3473b0fe8277fd4734914843"), looks := true }, kinds := [], alts := [], laidByText := true, laidKinds := [.data, .data, .data, .sentinel, .sentinel, .data, .data, .data, .data], laidTests := true, laidLooks := .later }
def AsmSpacingUptoCardSaid : Prop := Claim7.holds Tryz.pinned (.plain (OpenSpec.upto asmSpacingSpec)) asmSpacingUptoCard

/-- THE SECOND FORM's CARD OF 'modelchecklaw10.AsmResult'. -/
def asmResultUptoCard : Claim7 := { stood := { row := asmResultUptoRow, standIns := [], harness := (true, "49dbedfed38a6f670b37f4c6e83bba190fe192cd3473b0fe8277fd4734914843"), looks := true }, kinds := [], alts := [], laidByText := true, laidKinds := [.data, .data, .data, .sentinel, .sentinel, .data, .data, .data, .data], laidTests := true, laidLooks := .later }
def AsmResultUptoCardSaid : Prop := Claim7.holds Tryz.pinned (.plain (OpenSpec.upto asmResultSpec)) asmResultUptoCard

/-- THE SECOND FORM's CARD OF 'modelchecklaw11.DisasmPrograms'. -/
def disasmProgramsUptoCard : Claim7 := { stood := { row := disasmProgramsUptoRow, standIns := [], harness := (true, "49dbedfed38a6f670b37f4c6e83bba190fe192cd3473b0fe8277fd4734914843"), looks := true }, kinds := [], alts := [], laidByText := true, laidKinds := [.data, .data, .data, .data, .data, .data, .data], laidTests := true, laidLooks := .later }
def DisasmProgramsUptoCardSaid : Prop := Claim7.holds Tryz.pinned (.plain (OpenSpec.upto disasmProgramsSpec)) disasmProgramsUptoCard

/-- THE SECOND FORM's CARD OF 'modelchecklaw11.DisasmInstructions'. -/
def disasmInstructionsUptoCard : Claim7 := { stood := { row := disasmInstructionsUptoRow, standIns := [], harness := (true, "49dbedfed38a6f670b37f4c6e83bba190fe192cd3473b0fe8277fd4734914843"), looks := true }, kinds := [], alts := [], laidByText := true, laidKinds := [.data, .data, .data, .data, .data, .data, .data], laidTests := true, laidLooks := .later }
def DisasmInstructionsUptoCardSaid : Prop := Claim7.holds Tryz.pinned (.plain (OpenSpec.upto disasmInstructionsSpec)) disasmInstructionsUptoCard

/-- THE SECOND FORM's CARD OF 'modelchecklaw11.DisasmEvents'. -/
def disasmEventsUptoCard : Claim7 := { stood := { row := disasmEventsUptoRow, standIns := [], harness := (true, "49dbedfed38a6f670b37f4c6e83bba190fe192cd3473b0fe8277fd4734914843"), looks := true }, kinds := [], alts := [], laidByText := true, laidKinds := [.data, .data, .data, .data, .data, .data, .data], laidTests := true, laidLooks := .later }
def DisasmEventsUptoCardSaid : Prop := Claim7.holds Tryz.pinned (.plain (OpenSpec.upto disasmEventsSpec)) disasmEventsUptoCard

/-- THE SECOND FORM's CARD OF 'modelchecklaw11.DisasmRoundTrip'. -/
def disasmRoundTripUptoCard : Claim7 := { stood := { row := disasmRoundTripUptoRow, standIns := [], harness := (true, "49dbedfed38a6f670b37f4c6e83bba190fe192cd3473b0fe8277fd4734914843"), looks := true }, kinds := [], alts := [], laidByText := true, laidKinds := [.data, .data, .data, .sentinel, .sentinel, .data, .data, .data, .data, .data], laidTests := true, laidLooks := .later }
def DisasmRoundTripUptoCardSaid : Prop := Claim7.holds Tryz.pinned (.plain (OpenSpec.upto disasmRoundTripSpec)) disasmRoundTripUptoCard
end Rows
end Go.Proofs.YtnckpjcfgeajbaaGreatDoor
