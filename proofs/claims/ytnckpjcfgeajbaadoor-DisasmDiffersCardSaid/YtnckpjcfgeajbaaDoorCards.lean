/-
  DERIVED. GIVEN WITH THE SEED: THE CARDS: each row of YtnckpjcfgeajbaaDoorRows.lean that lists a variable, with what it lists TIED to the program's text (the seventh form; the later family's looks); each row that meets fmt, with fmt's text TOLD by the authors' own Lean function (tested against real Go, not proved from fmt's source: count such statements apart). THE CARD IS WHAT COUNTS. Prove the row's statement (the work); the ties are given (YtnckpjcfgeajbaaDoorTie.lean); close each card by the builder's one call (the guide's Derived/Test/ToyasCard.lean, 'card_holds'). Laid BY PROGRAM, IN A SANDBOX (cutbox-door.mjs). By AI agents, Wed Nov 11 2026. No macro, syntax, notation, axiom, sorry.
-/
import Derived.Test.YtnckpjcfgeajbaaDoorRows
import GoSem.ClaimSeven
namespace Go.Proofs.YtnckpjcfgeajbaaDoor
namespace Rows

/-- THE TIED CARD OF 'modelchecklaw11.DisasmLayout'. -/
def disasmLayoutCard : Claim7 := { stood := { row := disasmLayoutRow, standIns := [], harness := (true, "e5df8106cd34efc8c37405502409137258fa4f035c3a41498d5f10c989175fbd"), looks := false }, kinds := [], alts := [], laidByText := true, laidKinds := [.data, .data, .data, .data, .data, .data, .data], laidTests := true, laidLooks := .later }
def DisasmLayoutCardSaid : Prop := Claim7.holds Tryd.pinned (.plain (OpenSpec.ofChange disasmLayoutSpec)) disasmLayoutCard

/-- THE TIED CARD OF 'modelchecklaw11.DisasmDiffers'. -/
def disasmDiffersCard : Claim7 := { stood := { row := disasmDiffersRow, standIns := [], harness := (true, "e5df8106cd34efc8c37405502409137258fa4f035c3a41498d5f10c989175fbd"), looks := false }, kinds := [], alts := [], laidByText := true, laidKinds := [.data, .data, .data, .data, .data, .data, .data], laidTests := true, laidLooks := .later }
def DisasmDiffersCardSaid : Prop := Claim7.holds Tryd.pinned (.plain (OpenSpec.ofChange disasmDiffersSpec)) disasmDiffersCard

/-- THE SECOND FORM's CARD OF 'modelchecklaw11.DisasmLayout'. -/
def disasmLayoutUptoCard : Claim7 := { stood := { row := disasmLayoutUptoRow, standIns := [], harness := (true, "e5df8106cd34efc8c37405502409137258fa4f035c3a41498d5f10c989175fbd"), looks := false }, kinds := [], alts := [], laidByText := true, laidKinds := [.data, .data, .data, .data, .data, .data, .data], laidTests := true, laidLooks := .later }
def DisasmLayoutUptoCardSaid : Prop := Claim7.holds Tryd.pinned (.plain (OpenSpec.upto disasmLayoutSpec)) disasmLayoutUptoCard

/-- THE SECOND FORM's CARD OF 'modelchecklaw11.DisasmDiffers'. -/
def disasmDiffersUptoCard : Claim7 := { stood := { row := disasmDiffersUptoRow, standIns := [], harness := (true, "e5df8106cd34efc8c37405502409137258fa4f035c3a41498d5f10c989175fbd"), looks := false }, kinds := [], alts := [], laidByText := true, laidKinds := [.data, .data, .data, .data, .data, .data, .data], laidTests := true, laidLooks := .later }
def DisasmDiffersUptoCardSaid : Prop := Claim7.holds Tryd.pinned (.plain (OpenSpec.upto disasmDiffersSpec)) disasmDiffersUptoCard
end Rows
end Go.Proofs.YtnckpjcfgeajbaaDoor
