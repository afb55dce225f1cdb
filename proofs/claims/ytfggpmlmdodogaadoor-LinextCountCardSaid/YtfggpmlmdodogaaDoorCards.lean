/-
  DERIVED. GIVEN WITH THE SEED: THE CARDS: each row of YtfggpmlmdodogaaDoorRows.lean that lists a variable, with what it lists TIED to the program's text (the seventh form; the later family's looks); each row that meets fmt, with fmt's text TOLD by the authors' own Lean function (tested against real Go, not proved from fmt's source: count such statements apart). THE CARD IS WHAT COUNTS. Prove the row's statement (the work); the ties are given (YtfggpmlmdodogaaDoorTie.lean); close each card by the builder's one call (the guide's Derived/Test/ToyasCard.lean, 'card_holds'). Laid BY PROGRAM, IN A SANDBOX (cutbox-door.mjs). By AI agents, Wed Nov 11 2026. No macro, syntax, notation, axiom, sorry.
-/
import Derived.Test.YtfggpmlmdodogaaDoorRows
import GoSem.ClaimSeven
namespace Go.Proofs.YtfggpmlmdodogaaDoor
namespace Rows

/-- THE TIED CARD OF 'modelchecklaw05.LinextCount'. -/
def linextCountCard : Claim7 := { stood := { row := linextCountRow, standIns := [], harness := (true, "a1f5d8920211381801b931ccfa5b598cda98dd6a152809247e3fa8423508cc4b"), looks := false }, kinds := [], alts := [], laidByText := true, laidKinds := [.data], laidTests := true, laidLooks := .later }
def LinextCountCardSaid : Prop := Claim7.holds Tryd.pinned (.plain (OpenSpec.ofChange linextCountSpec)) linextCountCard

/-- THE TIED CARD OF 'modelchecklaw05.LinextPlaces'. -/
def linextPlacesCard : Claim7 := { stood := { row := linextPlacesRow, standIns := [], harness := (true, "a1f5d8920211381801b931ccfa5b598cda98dd6a152809247e3fa8423508cc4b"), looks := false }, kinds := [], alts := [], laidByText := true, laidKinds := [.data], laidTests := true, laidLooks := .later }
def LinextPlacesCardSaid : Prop := Claim7.holds Tryd.pinned (.plain (OpenSpec.ofChange linextPlacesSpec)) linextPlacesCard

/-- THE SECOND FORM's CARD OF 'modelchecklaw05.LinextCount'. -/
def linextCountUptoCard : Claim7 := { stood := { row := linextCountUptoRow, standIns := [], harness := (true, "a1f5d8920211381801b931ccfa5b598cda98dd6a152809247e3fa8423508cc4b"), looks := false }, kinds := [], alts := [], laidByText := true, laidKinds := [.data], laidTests := true, laidLooks := .later }
def LinextCountUptoCardSaid : Prop := Claim7.holds Tryd.pinned (.plain (OpenSpec.upto linextCountSpec)) linextCountUptoCard

/-- THE SECOND FORM's CARD OF 'modelchecklaw05.LinextPlaces'. -/
def linextPlacesUptoCard : Claim7 := { stood := { row := linextPlacesUptoRow, standIns := [], harness := (true, "a1f5d8920211381801b931ccfa5b598cda98dd6a152809247e3fa8423508cc4b"), looks := false }, kinds := [], alts := [], laidByText := true, laidKinds := [.data], laidTests := true, laidLooks := .later }
def LinextPlacesUptoCardSaid : Prop := Claim7.holds Tryd.pinned (.plain (OpenSpec.upto linextPlacesSpec)) linextPlacesUptoCard
end Rows
end Go.Proofs.YtfggpmlmdodogaaDoor
