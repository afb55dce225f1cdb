/-
  DERIVED. GIVEN WITH THE SEED: THE CARDS: each row of YtnlhkeobfidjkaaDoorRows.lean that lists a variable, with what it lists TIED to the program's text (the seventh form; the later family's looks); each row that meets fmt, with fmt's text TOLD by the authors' own Lean function (tested against real Go, not proved from fmt's source: count such statements apart). THE CARD IS WHAT COUNTS. Prove the row's statement (the work); the ties are given (YtnlhkeobfidjkaaDoorTie.lean); close each card by the builder's one call (the guide's Derived/Test/ToyasCard.lean, 'card_holds'). Laid BY PROGRAM, IN A SANDBOX (cutbox-door.mjs). By AI agents, Wed Nov 11 2026. No macro, syntax, notation, axiom, sorry.
-/
import Derived.Test.YtnlhkeobfidjkaaDoorRows
import GoSem.ClaimSeven
namespace Go.Proofs.YtnlhkeobfidjkaaDoor
namespace Rows

/-- THE TIED CARD OF 'modelchecklaw09.LexScans'. -/
def lexScansCard : Claim7 := { stood := { row := lexScansRow, standIns := [], harness := (true, "a67f4bfff13f2538bad6a6386e4bc7c8fd85d09b8ae7dbba50f6d0631a4277f3"), looks := true }, kinds := [], alts := [], laidByText := true, laidKinds := [.data, .data, .data, .sentinel, .sentinel], laidTests := true, laidLooks := .later }
def LexScansCardSaid : Prop := Claim7.holds Tryd.pinned (.plain (OpenSpec.ofChange lexScansSpec)) lexScansCard

/-- THE TIED CARD OF 'modelchecklaw09.LexJoins'. -/
def lexJoinsCard : Claim7 := { stood := { row := lexJoinsRow, standIns := [], harness := (true, "a67f4bfff13f2538bad6a6386e4bc7c8fd85d09b8ae7dbba50f6d0631a4277f3"), looks := true }, kinds := [], alts := [], laidByText := true, laidKinds := [.data, .data, .data, .sentinel, .sentinel], laidTests := true, laidLooks := .later }
def LexJoinsCardSaid : Prop := Claim7.holds Tryd.pinned (.plain (OpenSpec.ofChange lexJoinsSpec)) lexJoinsCard

/-- THE TIED CARD OF 'modelchecklaw09.LexPosition'. -/
def lexPositionCard : Claim7 := { stood := { row := lexPositionRow, standIns := [], harness := (true, "a67f4bfff13f2538bad6a6386e4bc7c8fd85d09b8ae7dbba50f6d0631a4277f3"), looks := true }, kinds := [], alts := [], laidByText := true, laidKinds := [.data, .data, .data, .sentinel, .sentinel], laidTests := true, laidLooks := .later }
def LexPositionCardSaid : Prop := Claim7.holds Tryd.pinned (.plain (OpenSpec.ofChange lexPositionSpec)) lexPositionCard

/-- THE TIED CARD OF 'modelchecklaw09.LexRoundTrip'. -/
def lexRoundTripCard : Claim7 := { stood := { row := lexRoundTripRow, standIns := [], harness := (true, "a67f4bfff13f2538bad6a6386e4bc7c8fd85d09b8ae7dbba50f6d0631a4277f3"), looks := true }, kinds := [], alts := [], laidByText := true, laidKinds := [.data, .data, .data, .sentinel, .sentinel], laidTests := true, laidLooks := .later }
def LexRoundTripCardSaid : Prop := Claim7.holds Tryd.pinned (.plain (OpenSpec.ofChange lexRoundTripSpec)) lexRoundTripCard

/-- THE TIED CARD OF 'modelchecklaw09.LexLocal'. -/
def lexLocalCard : Claim7 := { stood := { row := lexLocalRow, standIns := [], harness := (true, "a67f4bfff13f2538bad6a6386e4bc7c8fd85d09b8ae7dbba50f6d0631a4277f3"), looks := true }, kinds := [], alts := [], laidByText := true, laidKinds := [.data, .data, .data, .sentinel, .sentinel], laidTests := true, laidLooks := .later }
def LexLocalCardSaid : Prop := Claim7.holds Tryd.pinned (.plain (OpenSpec.ofChange lexLocalSpec)) lexLocalCard

/-- THE SECOND FORM's CARD OF 'modelchecklaw09.LexScans'. -/
def lexScansUptoCard : Claim7 := { stood := { row := lexScansUptoRow, standIns := [], harness := (true, "a67f4bfff13f2538bad6a6386e4bc7c8fd85d09b8ae7dbba50f6d0631a4277f3"), looks := true }, kinds := [], alts := [], laidByText := true, laidKinds := [.data, .data, .data, .sentinel, .sentinel], laidTests := true, laidLooks := .later }
def LexScansUptoCardSaid : Prop := Claim7.holds Tryd.pinned (.plain (OpenSpec.upto lexScansSpec)) lexScansUptoCard

/-- THE SECOND FORM's CARD OF 'modelchecklaw09.LexJoins'. -/
def lexJoinsUptoCard : Claim7 := { stood := { row := lexJoinsUptoRow, standIns := [], harness := (true, "a67f4bfff13f2538bad6a6386e4bc7c8fd85d09b8ae7dbba50f6d0631a4277f3"), looks := true }, kinds := [], alts := [], laidByText := true, laidKinds := [.data, .data, .data, .sentinel, .sentinel], laidTests := true, laidLooks := .later }
def LexJoinsUptoCardSaid : Prop := Claim7.holds Tryd.pinned (.plain (OpenSpec.upto lexJoinsSpec)) lexJoinsUptoCard

/-- THE SECOND FORM's CARD OF 'modelchecklaw09.LexPosition'. -/
def lexPositionUptoCard : Claim7 := { stood := { row := lexPositionUptoRow, standIns := [], harness := (true, "a67f4bfff13f2538bad6a6386e4bc7c8fd85d09b8ae7dbba50f6d0631a4277f3"), looks := true }, kinds := [], alts := [], laidByText := true, laidKinds := [.data, .data, .data, .sentinel, .sentinel], laidTests := true, laidLooks := .later }
def LexPositionUptoCardSaid : Prop := Claim7.holds Tryd.pinned (.plain (OpenSpec.upto lexPositionSpec)) lexPositionUptoCard

/-- THE SECOND FORM's CARD OF 'modelchecklaw09.LexRoundTrip'. -/
def lexRoundTripUptoCard : Claim7 := { stood := { row := lexRoundTripUptoRow, standIns := [], harness := (true, "a67f4bfff13f2538bad6a6386e4bc7c8fd85d09b8ae7dbba50f6d0631a4277f3"), looks := true }, kinds := [], alts := [], laidByText := true, laidKinds := [.data, .data, .data, .sentinel, .sentinel], laidTests := true, laidLooks := .later }
def LexRoundTripUptoCardSaid : Prop := Claim7.holds Tryd.pinned (.plain (OpenSpec.upto lexRoundTripSpec)) lexRoundTripUptoCard

/-- THE SECOND FORM's CARD OF 'modelchecklaw09.LexLocal'. -/
def lexLocalUptoCard : Claim7 := { stood := { row := lexLocalUptoRow, standIns := [], harness := (true, "a67f4bfff13f2538bad6a6386e4bc7c8fd85d09b8ae7dbba50f6d0631a4277f3"), looks := true }, kinds := [], alts := [], laidByText := true, laidKinds := [.data, .data, .data, .sentinel, .sentinel], laidTests := true, laidLooks := .later }
def LexLocalUptoCardSaid : Prop := Claim7.holds Tryd.pinned (.plain (OpenSpec.upto lexLocalSpec)) lexLocalUptoCard
end Rows
end Go.Proofs.YtnlhkeobfidjkaaDoor
