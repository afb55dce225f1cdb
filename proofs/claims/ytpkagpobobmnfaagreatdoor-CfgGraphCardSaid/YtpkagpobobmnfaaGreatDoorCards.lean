/-
  DERIVED. GIVEN WITH THE SEED: THE CARDS: each row of YtpkagpobobmnfaaGreatDoorRows.lean that lists a variable, with what it lists TIED to the program's text (the seventh form; the later family's looks); each row that meets fmt, with fmt's text TOLD by the authors' own Lean function (tested against real Go, not proved from fmt's source: count such statements apart). THE CARD IS WHAT COUNTS. Prove the row's statement (the work); the ties are given (YtpkagpobobmnfaaGreatDoorTie.lean); close each card by the builder's one call (the guide's Derived/Test/ToyasCard.lean, 'card_holds'). Laid BY PROGRAM, IN A SANDBOX (cutbox-door.mjs). By AI agents, Wed Nov 11 2026. No macro, syntax, notation, axiom, sorry.
-/
import Derived.Test.YtpkagpobobmnfaaGreatDoorRows
import GoSem.ClaimSeven
namespace Go.Proofs.YtpkagpobobmnfaaGreatDoor
namespace Rows

/-- THE TIED CARD OF 'modelchecklaw12.CfgGraph'. -/
def cfgGraphCard : Claim7 := { stood := { row := cfgGraphRow, standIns := [], harness := (true, "ea5cca25bb172140c83abbe6275018faec47dbc764123c8bc992c3247d89a8ef"), looks := false }, kinds := [], alts := [], laidByText := true, laidKinds := [.data, .data], laidTests := true, laidLooks := .later }
def CfgGraphCardSaid : Prop := Claim7.holds Tryz.pinned (.plain (OpenSpec.ofChange cfgGraphSpec)) cfgGraphCard

/-- THE TIED CARD OF 'modelchecklaw15.SimplifyPrograms'. -/
def simplifyProgramsCard : Claim7 := { stood := { row := simplifyProgramsRow, standIns := [], harness := (true, "ea5cca25bb172140c83abbe6275018faec47dbc764123c8bc992c3247d89a8ef"), looks := false }, kinds := [], alts := [], laidByText := true, laidKinds := [.data, .data], laidTests := true, laidLooks := .later }
def SimplifyProgramsCardSaid : Prop := Claim7.holds Tryz.pinned (.plain (OpenSpec.ofChange simplifyProgramsSpec)) simplifyProgramsCard

/-- THE TIED CARD OF 'modelchecklaw15.SimplifyIdempotent'. -/
def simplifyIdempotentCard : Claim7 := { stood := { row := simplifyIdempotentRow, standIns := [], harness := (true, "ea5cca25bb172140c83abbe6275018faec47dbc764123c8bc992c3247d89a8ef"), looks := false }, kinds := [], alts := [], laidByText := true, laidKinds := [.data, .data], laidTests := true, laidLooks := .later }
def SimplifyIdempotentCardSaid : Prop := Claim7.holds Tryz.pinned (.plain (OpenSpec.ofChange simplifyIdempotentSpec)) simplifyIdempotentCard

/-- THE SECOND FORM's CARD OF 'modelchecklaw12.CfgGraph'. -/
def cfgGraphUptoCard : Claim7 := { stood := { row := cfgGraphUptoRow, standIns := [], harness := (true, "ea5cca25bb172140c83abbe6275018faec47dbc764123c8bc992c3247d89a8ef"), looks := false }, kinds := [], alts := [], laidByText := true, laidKinds := [.data, .data], laidTests := true, laidLooks := .later }
def CfgGraphUptoCardSaid : Prop := Claim7.holds Tryz.pinned (.plain (OpenSpec.upto cfgGraphSpec)) cfgGraphUptoCard

/-- THE SECOND FORM's CARD OF 'modelchecklaw15.SimplifyPrograms'. -/
def simplifyProgramsUptoCard : Claim7 := { stood := { row := simplifyProgramsUptoRow, standIns := [], harness := (true, "ea5cca25bb172140c83abbe6275018faec47dbc764123c8bc992c3247d89a8ef"), looks := false }, kinds := [], alts := [], laidByText := true, laidKinds := [.data, .data], laidTests := true, laidLooks := .later }
def SimplifyProgramsUptoCardSaid : Prop := Claim7.holds Tryz.pinned (.plain (OpenSpec.upto simplifyProgramsSpec)) simplifyProgramsUptoCard

/-- THE SECOND FORM's CARD OF 'modelchecklaw15.SimplifyIdempotent'. -/
def simplifyIdempotentUptoCard : Claim7 := { stood := { row := simplifyIdempotentUptoRow, standIns := [], harness := (true, "ea5cca25bb172140c83abbe6275018faec47dbc764123c8bc992c3247d89a8ef"), looks := false }, kinds := [], alts := [], laidByText := true, laidKinds := [.data, .data], laidTests := true, laidLooks := .later }
def SimplifyIdempotentUptoCardSaid : Prop := Claim7.holds Tryz.pinned (.plain (OpenSpec.upto simplifyIdempotentSpec)) simplifyIdempotentUptoCard
end Rows
end Go.Proofs.YtpkagpobobmnfaaGreatDoor
