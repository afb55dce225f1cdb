/-
  DERIVED. GIVEN WITH THE SEED: THE CARDS: each row of YtnnpkbonbemeaaaDoorRows.lean that lists a variable, with what it lists TIED to the program's text (the seventh form; the later family's looks); each row that meets fmt, with fmt's text TOLD by the authors' own Lean function (tested against real Go, not proved from fmt's source: count such statements apart). THE CARD IS WHAT COUNTS. Prove the row's statement (the work); the ties are given (YtnnpkbonbemeaaaDoorTie.lean); close each card by the builder's one call (the guide's Derived/Test/ToyasCard.lean, 'card_holds'). Laid BY PROGRAM, IN A SANDBOX (cutbox-door.mjs). By AI agents, Wed Nov 11 2026. No macro, syntax, notation, axiom, sorry.
-/
import Derived.Test.YtnnpkbonbemeaaaDoorRows
import GoSem.ClaimSeven
namespace Go.Proofs.YtnnpkbonbemeaaaDoor
namespace Rows

/-- THE TIED CARD OF 'modelchecklaw14.AwaitPattern'. -/
def awaitPatternCard : Claim7 := { stood := { row := awaitPatternRow, standIns := [], harness := (true, "564adbdd224d536ce3b80ffc6e022e69d2e9a7c4aa3c4d7d64337155cfe5b2ff"), looks := false }, kinds := [], alts := [], laidByText := true, laidKinds := [.data, .data], laidTests := true, laidLooks := .later }
def AwaitPatternCardSaid : Prop := Claim7.holds Tryd.pinned (.plain (OpenSpec.ofChange awaitPatternSpec)) awaitPatternCard

/-- THE TIED CARD OF 'modelchecklaw15.SimplifyFolds'. -/
def simplifyFoldsCard : Claim7 := { stood := { row := simplifyFoldsRow, standIns := [], harness := (true, "564adbdd224d536ce3b80ffc6e022e69d2e9a7c4aa3c4d7d64337155cfe5b2ff"), looks := false }, kinds := [], alts := [], laidByText := true, laidKinds := [.data, .data], laidTests := true, laidLooks := .later }
def SimplifyFoldsCardSaid : Prop := Claim7.holds Tryd.pinned (.plain (OpenSpec.ofChange simplifyFoldsSpec)) simplifyFoldsCard

/-- THE TIED CARD OF 'modelchecklaw15.SimplifyJumps'. -/
def simplifyJumpsCard : Claim7 := { stood := { row := simplifyJumpsRow, standIns := [], harness := (true, "564adbdd224d536ce3b80ffc6e022e69d2e9a7c4aa3c4d7d64337155cfe5b2ff"), looks := false }, kinds := [], alts := [], laidByText := true, laidKinds := [.data, .data], laidTests := true, laidLooks := .later }
def SimplifyJumpsCardSaid : Prop := Claim7.holds Tryd.pinned (.plain (OpenSpec.ofChange simplifyJumpsSpec)) simplifyJumpsCard

/-- THE TIED CARD OF 'modelchecklaw15.SimplifyRuns'. -/
def simplifyRunsCard : Claim7 := { stood := { row := simplifyRunsRow, standIns := [], harness := (true, "564adbdd224d536ce3b80ffc6e022e69d2e9a7c4aa3c4d7d64337155cfe5b2ff"), looks := false }, kinds := [], alts := [], laidByText := true, laidKinds := [.data, .data], laidTests := true, laidLooks := .later }
def SimplifyRunsCardSaid : Prop := Claim7.holds Tryd.pinned (.plain (OpenSpec.ofChange simplifyRunsSpec)) simplifyRunsCard

/-- THE TIED CARD OF 'modelchecklaw15.SimplifyTwice'. -/
def simplifyTwiceCard : Claim7 := { stood := { row := simplifyTwiceRow, standIns := [], harness := (true, "564adbdd224d536ce3b80ffc6e022e69d2e9a7c4aa3c4d7d64337155cfe5b2ff"), looks := false }, kinds := [], alts := [], laidByText := true, laidKinds := [.data, .data], laidTests := true, laidLooks := .later }
def SimplifyTwiceCardSaid : Prop := Claim7.holds Tryd.pinned (.plain (OpenSpec.ofChange simplifyTwiceSpec)) simplifyTwiceCard

/-- THE SECOND FORM's CARD OF 'modelchecklaw14.AwaitPattern'. -/
def awaitPatternUptoCard : Claim7 := { stood := { row := awaitPatternUptoRow, standIns := [], harness := (true, "564adbdd224d536ce3b80ffc6e022e69d2e9a7c4aa3c4d7d64337155cfe5b2ff"), looks := false }, kinds := [], alts := [], laidByText := true, laidKinds := [.data, .data], laidTests := true, laidLooks := .later }
def AwaitPatternUptoCardSaid : Prop := Claim7.holds Tryd.pinned (.plain (OpenSpec.upto awaitPatternSpec)) awaitPatternUptoCard

/-- THE SECOND FORM's CARD OF 'modelchecklaw15.SimplifyFolds'. -/
def simplifyFoldsUptoCard : Claim7 := { stood := { row := simplifyFoldsUptoRow, standIns := [], harness := (true, "564adbdd224d536ce3b80ffc6e022e69d2e9a7c4aa3c4d7d64337155cfe5b2ff"), looks := false }, kinds := [], alts := [], laidByText := true, laidKinds := [.data, .data], laidTests := true, laidLooks := .later }
def SimplifyFoldsUptoCardSaid : Prop := Claim7.holds Tryd.pinned (.plain (OpenSpec.upto simplifyFoldsSpec)) simplifyFoldsUptoCard

/-- THE SECOND FORM's CARD OF 'modelchecklaw15.SimplifyJumps'. -/
def simplifyJumpsUptoCard : Claim7 := { stood := { row := simplifyJumpsUptoRow, standIns := [], harness := (true, "564adbdd224d536ce3b80ffc6e022e69d2e9a7c4aa3c4d7d64337155cfe5b2ff"), looks := false }, kinds := [], alts := [], laidByText := true, laidKinds := [.data, .data], laidTests := true, laidLooks := .later }
def SimplifyJumpsUptoCardSaid : Prop := Claim7.holds Tryd.pinned (.plain (OpenSpec.upto simplifyJumpsSpec)) simplifyJumpsUptoCard

/-- THE SECOND FORM's CARD OF 'modelchecklaw15.SimplifyRuns'. -/
def simplifyRunsUptoCard : Claim7 := { stood := { row := simplifyRunsUptoRow, standIns := [], harness := (true, "564adbdd224d536ce3b80ffc6e022e69d2e9a7c4aa3c4d7d64337155cfe5b2ff"), looks := false }, kinds := [], alts := [], laidByText := true, laidKinds := [.data, .data], laidTests := true, laidLooks := .later }
def SimplifyRunsUptoCardSaid : Prop := Claim7.holds Tryd.pinned (.plain (OpenSpec.upto simplifyRunsSpec)) simplifyRunsUptoCard

/-- THE SECOND FORM's CARD OF 'modelchecklaw15.SimplifyTwice'. -/
def simplifyTwiceUptoCard : Claim7 := { stood := { row := simplifyTwiceUptoRow, standIns := [], harness := (true, "564adbdd224d536ce3b80ffc6e022e69d2e9a7c4aa3c4d7d64337155cfe5b2ff"), looks := false }, kinds := [], alts := [], laidByText := true, laidKinds := [.data, .data], laidTests := true, laidLooks := .later }
def SimplifyTwiceUptoCardSaid : Prop := Claim7.holds Tryd.pinned (.plain (OpenSpec.upto simplifyTwiceSpec)) simplifyTwiceUptoCard
end Rows
end Go.Proofs.YtnnpkbonbemeaaaDoor
