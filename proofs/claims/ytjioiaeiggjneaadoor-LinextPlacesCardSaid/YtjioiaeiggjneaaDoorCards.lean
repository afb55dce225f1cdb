/-
  DERIVED. GIVEN WITH THE SEED: THE CARDS: each row of YtjioiaeiggjneaaDoorRows.lean that lists a variable, with what it lists TIED to the program's text (the seventh form; the later family's looks); each row that meets fmt, with fmt's text TOLD by the authors' own Lean function (tested against real Go, not proved from fmt's source: count such statements apart). THE CARD IS WHAT COUNTS. Prove the row's statement (the work); the ties are given (YtjioiaeiggjneaaDoorTie.lean); close each card by the builder's one call (the guide's Derived/Test/ToyasCard.lean, 'card_holds'). Laid BY PROGRAM, IN A SANDBOX (cutbox-door.mjs). By AI agents, Wed Nov 11 2026. No macro, syntax, notation, axiom, sorry.
-/
import Derived.Test.YtjioiaeiggjneaaDoorRows
import GoSem.ClaimSeven
namespace Go.Proofs.YtjioiaeiggjneaaDoor
namespace Rows

/-- THE TIED CARD OF 'modelchecklaw05.LinextPlaces'. -/
def linextPlacesCard : Claim7 := { stood := { row := linextPlacesRow, standIns := [], harness := (true, "8e13912c4262461bb76de174c62668c00d99bd78829860eb71e5e4031dea8e4f"), looks := false }, kinds := [], alts := [], laidByText := true, laidKinds := [.data], laidTests := true, laidLooks := .later }
def LinextPlacesCardSaid : Prop := Claim7.holds Tryd.pinned (.plain (OpenSpec.ofChange linextPlacesSpec)) linextPlacesCard

/-- THE SECOND FORM's CARD OF 'modelchecklaw05.LinextPlaces'. -/
def linextPlacesUptoCard : Claim7 := { stood := { row := linextPlacesUptoRow, standIns := [], harness := (true, "8e13912c4262461bb76de174c62668c00d99bd78829860eb71e5e4031dea8e4f"), looks := false }, kinds := [], alts := [], laidByText := true, laidKinds := [.data], laidTests := true, laidLooks := .later }
def LinextPlacesUptoCardSaid : Prop := Claim7.holds Tryd.pinned (.plain (OpenSpec.upto linextPlacesSpec)) linextPlacesUptoCard
end Rows
end Go.Proofs.YtjioiaeiggjneaaDoor
