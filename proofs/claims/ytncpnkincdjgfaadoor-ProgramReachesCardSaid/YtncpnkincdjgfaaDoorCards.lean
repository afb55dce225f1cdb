/-
  DERIVED. GIVEN WITH THE SEED: THE CARDS: each row of YtncpnkincdjgfaaDoorRows.lean that lists a variable, with what it lists TIED to the program's text (the seventh form; the later family's looks); each row that meets fmt, with fmt's text TOLD by the authors' own Lean function (tested against real Go, not proved from fmt's source: count such statements apart). THE CARD IS WHAT COUNTS. Prove the row's statement (the work); the ties are given (YtncpnkincdjgfaaDoorTie.lean); close each card by the builder's one call (the guide's Derived/Test/ToyasCard.lean, 'card_holds'). Laid BY PROGRAM, IN A SANDBOX (cutbox-door.mjs). By AI agents, Wed Nov 11 2026. No macro, syntax, notation, axiom, sorry.
-/
import Derived.Test.YtncpnkincdjgfaaDoorRows
import GoSem.ClaimSeven
namespace Go.Proofs.YtncpnkincdjgfaaDoor
namespace Rows

/-- THE TIED CARD OF 'modelchecklaw08.ProgramCopies'. -/
def programCopiesCard : Claim7 := { stood := { row := programCopiesRow, standIns := [], harness := (true, "d214958be97f6fee5e1480edf60f873d1a3bd48f8143ebd032980e6570cd0a4d"), looks := false }, kinds := [], alts := [], laidByText := true, laidKinds := [.data, .data], laidTests := true, laidLooks := .later }
def ProgramCopiesCardSaid : Prop := Claim7.holds Tryd.pinned (.plain (OpenSpec.ofChange programCopiesSpec)) programCopiesCard

/-- THE TIED CARD OF 'modelchecklaw08.ProgramReaches'. -/
def programReachesCard : Claim7 := { stood := { row := programReachesRow, standIns := [], harness := (true, "d214958be97f6fee5e1480edf60f873d1a3bd48f8143ebd032980e6570cd0a4d"), looks := false }, kinds := [], alts := [], laidByText := true, laidKinds := [.data, .data], laidTests := true, laidLooks := .later }
def ProgramReachesCardSaid : Prop := Claim7.holds Tryd.pinned (.plain (OpenSpec.ofChange programReachesSpec)) programReachesCard

/-- THE TIED CARD OF 'modelchecklaw08.ProgramReachable'. -/
def programReachableCard : Claim7 := { stood := { row := programReachableRow, standIns := [], harness := (true, "d214958be97f6fee5e1480edf60f873d1a3bd48f8143ebd032980e6570cd0a4d"), looks := false }, kinds := [], alts := [], laidByText := true, laidKinds := [.data, .data], laidTests := true, laidLooks := .later }
def ProgramReachableCardSaid : Prop := Claim7.holds Tryd.pinned (.plain (OpenSpec.ofChange programReachableSpec)) programReachableCard

/-- THE SECOND FORM's CARD OF 'modelchecklaw08.ProgramCopies'. -/
def programCopiesUptoCard : Claim7 := { stood := { row := programCopiesUptoRow, standIns := [], harness := (true, "d214958be97f6fee5e1480edf60f873d1a3bd48f8143ebd032980e6570cd0a4d"), looks := false }, kinds := [], alts := [], laidByText := true, laidKinds := [.data, .data], laidTests := true, laidLooks := .later }
def ProgramCopiesUptoCardSaid : Prop := Claim7.holds Tryd.pinned (.plain (OpenSpec.upto programCopiesSpec)) programCopiesUptoCard

/-- THE SECOND FORM's CARD OF 'modelchecklaw08.ProgramReaches'. -/
def programReachesUptoCard : Claim7 := { stood := { row := programReachesUptoRow, standIns := [], harness := (true, "d214958be97f6fee5e1480edf60f873d1a3bd48f8143ebd032980e6570cd0a4d"), looks := false }, kinds := [], alts := [], laidByText := true, laidKinds := [.data, .data], laidTests := true, laidLooks := .later }
def ProgramReachesUptoCardSaid : Prop := Claim7.holds Tryd.pinned (.plain (OpenSpec.upto programReachesSpec)) programReachesUptoCard

/-- THE SECOND FORM's CARD OF 'modelchecklaw08.ProgramReachable'. -/
def programReachableUptoCard : Claim7 := { stood := { row := programReachableUptoRow, standIns := [], harness := (true, "d214958be97f6fee5e1480edf60f873d1a3bd48f8143ebd032980e6570cd0a4d"), looks := false }, kinds := [], alts := [], laidByText := true, laidKinds := [.data, .data], laidTests := true, laidLooks := .later }
def ProgramReachableUptoCardSaid : Prop := Claim7.holds Tryd.pinned (.plain (OpenSpec.upto programReachableSpec)) programReachableUptoCard
end Rows
end Go.Proofs.YtncpnkincdjgfaaDoor
