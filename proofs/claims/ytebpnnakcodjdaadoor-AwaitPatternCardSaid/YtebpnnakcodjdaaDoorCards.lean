/-
  DERIVED. GIVEN WITH THE SEED: THE CARDS: each row of YtebpnnakcodjdaaDoorRows.lean that lists a variable, with what it lists TIED to the program's text (the seventh form; the later family's looks); each row that meets fmt, with fmt's text TOLD by the authors' own Lean function (tested against real Go, not proved from fmt's source: count such statements apart). THE CARD IS WHAT COUNTS. Prove the row's statement (the work); the ties are given (YtebpnnakcodjdaaDoorTie.lean); close each card by the builder's one call (the guide's Derived/Test/ToyasCard.lean, 'card_holds'). Laid BY PROGRAM, IN A SANDBOX (cutbox-door.mjs). By AI agents, Wed Nov 11 2026. No macro, syntax, notation, axiom, sorry.
-/
import Derived.Test.YtebpnnakcodjdaaDoorRows
import GoSem.ClaimSeven
namespace Go.Proofs.YtebpnnakcodjdaaDoor
namespace Rows

/-- THE TIED CARD OF 'modelchecklaw14.AwaitPattern'. -/
def awaitPatternCard : Claim7 := { stood := { row := awaitPatternRow, standIns := [], harness := (true, "858072d567418fb66a6c1f5fc50bb8436afad88649732c73385274e28ff5174f"), looks := false }, kinds := [], alts := [], laidByText := true, laidKinds := [.data, .data], laidTests := true, laidLooks := .later }
def AwaitPatternCardSaid : Prop := Claim7.holds Tryd.pinned (.plain (OpenSpec.ofChange awaitPatternSpec)) awaitPatternCard

/-- THE SECOND FORM's CARD OF 'modelchecklaw14.AwaitPattern'. -/
def awaitPatternUptoCard : Claim7 := { stood := { row := awaitPatternUptoRow, standIns := [], harness := (true, "858072d567418fb66a6c1f5fc50bb8436afad88649732c73385274e28ff5174f"), looks := false }, kinds := [], alts := [], laidByText := true, laidKinds := [.data, .data], laidTests := true, laidLooks := .later }
def AwaitPatternUptoCardSaid : Prop := Claim7.holds Tryd.pinned (.plain (OpenSpec.upto awaitPatternSpec)) awaitPatternUptoCard
end Rows
end Go.Proofs.YtebpnnakcodjdaaDoor
