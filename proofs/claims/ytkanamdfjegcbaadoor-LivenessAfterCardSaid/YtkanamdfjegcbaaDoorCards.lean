/-
  DERIVED. GIVEN WITH THE SEED: THE CARDS: each row of YtkanamdfjegcbaaDoorRows.lean that lists a variable, with what it lists TIED to the program's text (the seventh form; the later family's looks); each row that meets fmt, with fmt's text TOLD by the authors' own Lean function (tested against real Go, not proved from fmt's source: count such statements apart). THE CARD IS WHAT COUNTS. Prove the row's statement (the work); the ties are given (YtkanamdfjegcbaaDoorTie.lean); close each card by the builder's one call (the guide's Derived/Test/ToyasCard.lean, 'card_holds'). Laid BY PROGRAM, IN A SANDBOX (cutbox-door.mjs). By AI agents, Wed Nov 11 2026. No macro, syntax, notation, axiom, sorry.
-/
import Derived.Test.YtkanamdfjegcbaaDoorRows
import GoSem.ClaimSeven
namespace Go.Proofs.YtkanamdfjegcbaaDoor
namespace Rows

/-- THE TIED CARD OF 'modelchecklaw13.LivenessBefore'. -/
def livenessBeforeCard : Claim7 := { stood := { row := livenessBeforeRow, standIns := [], harness := (true, "ea28f7f9f702f8263ade2b7fd5525b5496d028c8fff3fda362949673f93f3ef4"), looks := false }, kinds := [], alts := [], laidByText := true, laidKinds := [.data, .data], laidTests := true, laidLooks := .later }
def LivenessBeforeCardSaid : Prop := Claim7.holds Tryd.pinned (.plain (OpenSpec.ofChange livenessBeforeSpec)) livenessBeforeCard

/-- THE TIED CARD OF 'modelchecklaw13.LivenessAfter'. -/
def livenessAfterCard : Claim7 := { stood := { row := livenessAfterRow, standIns := [], harness := (true, "ea28f7f9f702f8263ade2b7fd5525b5496d028c8fff3fda362949673f93f3ef4"), looks := false }, kinds := [], alts := [], laidByText := true, laidKinds := [.data, .data], laidTests := true, laidLooks := .later }
def LivenessAfterCardSaid : Prop := Claim7.holds Tryd.pinned (.plain (OpenSpec.ofChange livenessAfterSpec)) livenessAfterCard

/-- THE TIED CARD OF 'modelchecklaw13.LivenessRename'. -/
def livenessRenameCard : Claim7 := { stood := { row := livenessRenameRow, standIns := [], harness := (true, "ea28f7f9f702f8263ade2b7fd5525b5496d028c8fff3fda362949673f93f3ef4"), looks := false }, kinds := [], alts := [], laidByText := true, laidKinds := [.data, .data], laidTests := true, laidLooks := .later }
def LivenessRenameCardSaid : Prop := Claim7.holds Tryd.pinned (.plain (OpenSpec.ofChange livenessRenameSpec)) livenessRenameCard

/-- THE TIED CARD OF 'modelchecklaw14.AwaitFinds'. -/
def awaitFindsCard : Claim7 := { stood := { row := awaitFindsRow, standIns := [], harness := (true, "ea28f7f9f702f8263ade2b7fd5525b5496d028c8fff3fda362949673f93f3ef4"), looks := false }, kinds := [], alts := [], laidByText := true, laidKinds := [.data, .data], laidTests := true, laidLooks := .later }
def AwaitFindsCardSaid : Prop := Claim7.holds Tryd.pinned (.plain (OpenSpec.ofChange awaitFindsSpec)) awaitFindsCard

/-- THE TIED CARD OF 'modelchecklaw14.AwaitRewrites'. -/
def awaitRewritesCard : Claim7 := { stood := { row := awaitRewritesRow, standIns := [], harness := (true, "ea28f7f9f702f8263ade2b7fd5525b5496d028c8fff3fda362949673f93f3ef4"), looks := false }, kinds := [], alts := [], laidByText := true, laidKinds := [.data, .data], laidTests := true, laidLooks := .later }
def AwaitRewritesCardSaid : Prop := Claim7.holds Tryd.pinned (.plain (OpenSpec.ofChange awaitRewritesSpec)) awaitRewritesCard

/-- THE TIED CARD OF 'modelchecklaw14.AwaitPattern'. -/
def awaitPatternCard : Claim7 := { stood := { row := awaitPatternRow, standIns := [], harness := (true, "ea28f7f9f702f8263ade2b7fd5525b5496d028c8fff3fda362949673f93f3ef4"), looks := false }, kinds := [], alts := [], laidByText := true, laidKinds := [.data, .data], laidTests := true, laidLooks := .later }
def AwaitPatternCardSaid : Prop := Claim7.holds Tryd.pinned (.plain (OpenSpec.ofChange awaitPatternSpec)) awaitPatternCard

/-- THE TIED CARD OF 'modelchecklaw14.AwaitOnce'. -/
def awaitOnceCard : Claim7 := { stood := { row := awaitOnceRow, standIns := [], harness := (true, "ea28f7f9f702f8263ade2b7fd5525b5496d028c8fff3fda362949673f93f3ef4"), looks := false }, kinds := [], alts := [], laidByText := true, laidKinds := [.data, .data], laidTests := true, laidLooks := .later }
def AwaitOnceCardSaid : Prop := Claim7.holds Tryd.pinned (.plain (OpenSpec.ofChange awaitOnceSpec)) awaitOnceCard

/-- THE TIED CARD OF 'modelchecklaw14.AwaitLocal'. -/
def awaitLocalCard : Claim7 := { stood := { row := awaitLocalRow, standIns := [], harness := (true, "ea28f7f9f702f8263ade2b7fd5525b5496d028c8fff3fda362949673f93f3ef4"), looks := false }, kinds := [], alts := [], laidByText := true, laidKinds := [.data, .data], laidTests := true, laidLooks := .later }
def AwaitLocalCardSaid : Prop := Claim7.holds Tryd.pinned (.plain (OpenSpec.ofChange awaitLocalSpec)) awaitLocalCard

/-- THE SECOND FORM's CARD OF 'modelchecklaw13.LivenessBefore'. -/
def livenessBeforeUptoCard : Claim7 := { stood := { row := livenessBeforeUptoRow, standIns := [], harness := (true, "ea28f7f9f702f8263ade2b7fd5525b5496d028c8fff3fda362949673f93f3ef4"), looks := false }, kinds := [], alts := [], laidByText := true, laidKinds := [.data, .data], laidTests := true, laidLooks := .later }
def LivenessBeforeUptoCardSaid : Prop := Claim7.holds Tryd.pinned (.plain (OpenSpec.upto livenessBeforeSpec)) livenessBeforeUptoCard

/-- THE SECOND FORM's CARD OF 'modelchecklaw13.LivenessAfter'. -/
def livenessAfterUptoCard : Claim7 := { stood := { row := livenessAfterUptoRow, standIns := [], harness := (true, "ea28f7f9f702f8263ade2b7fd5525b5496d028c8fff3fda362949673f93f3ef4"), looks := false }, kinds := [], alts := [], laidByText := true, laidKinds := [.data, .data], laidTests := true, laidLooks := .later }
def LivenessAfterUptoCardSaid : Prop := Claim7.holds Tryd.pinned (.plain (OpenSpec.upto livenessAfterSpec)) livenessAfterUptoCard

/-- THE SECOND FORM's CARD OF 'modelchecklaw13.LivenessRename'. -/
def livenessRenameUptoCard : Claim7 := { stood := { row := livenessRenameUptoRow, standIns := [], harness := (true, "ea28f7f9f702f8263ade2b7fd5525b5496d028c8fff3fda362949673f93f3ef4"), looks := false }, kinds := [], alts := [], laidByText := true, laidKinds := [.data, .data], laidTests := true, laidLooks := .later }
def LivenessRenameUptoCardSaid : Prop := Claim7.holds Tryd.pinned (.plain (OpenSpec.upto livenessRenameSpec)) livenessRenameUptoCard

/-- THE SECOND FORM's CARD OF 'modelchecklaw14.AwaitFinds'. -/
def awaitFindsUptoCard : Claim7 := { stood := { row := awaitFindsUptoRow, standIns := [], harness := (true, "ea28f7f9f702f8263ade2b7fd5525b5496d028c8fff3fda362949673f93f3ef4"), looks := false }, kinds := [], alts := [], laidByText := true, laidKinds := [.data, .data], laidTests := true, laidLooks := .later }
def AwaitFindsUptoCardSaid : Prop := Claim7.holds Tryd.pinned (.plain (OpenSpec.upto awaitFindsSpec)) awaitFindsUptoCard

/-- THE SECOND FORM's CARD OF 'modelchecklaw14.AwaitRewrites'. -/
def awaitRewritesUptoCard : Claim7 := { stood := { row := awaitRewritesUptoRow, standIns := [], harness := (true, "ea28f7f9f702f8263ade2b7fd5525b5496d028c8fff3fda362949673f93f3ef4"), looks := false }, kinds := [], alts := [], laidByText := true, laidKinds := [.data, .data], laidTests := true, laidLooks := .later }
def AwaitRewritesUptoCardSaid : Prop := Claim7.holds Tryd.pinned (.plain (OpenSpec.upto awaitRewritesSpec)) awaitRewritesUptoCard

/-- THE SECOND FORM's CARD OF 'modelchecklaw14.AwaitPattern'. -/
def awaitPatternUptoCard : Claim7 := { stood := { row := awaitPatternUptoRow, standIns := [], harness := (true, "ea28f7f9f702f8263ade2b7fd5525b5496d028c8fff3fda362949673f93f3ef4"), looks := false }, kinds := [], alts := [], laidByText := true, laidKinds := [.data, .data], laidTests := true, laidLooks := .later }
def AwaitPatternUptoCardSaid : Prop := Claim7.holds Tryd.pinned (.plain (OpenSpec.upto awaitPatternSpec)) awaitPatternUptoCard

/-- THE SECOND FORM's CARD OF 'modelchecklaw14.AwaitOnce'. -/
def awaitOnceUptoCard : Claim7 := { stood := { row := awaitOnceUptoRow, standIns := [], harness := (true, "ea28f7f9f702f8263ade2b7fd5525b5496d028c8fff3fda362949673f93f3ef4"), looks := false }, kinds := [], alts := [], laidByText := true, laidKinds := [.data, .data], laidTests := true, laidLooks := .later }
def AwaitOnceUptoCardSaid : Prop := Claim7.holds Tryd.pinned (.plain (OpenSpec.upto awaitOnceSpec)) awaitOnceUptoCard

/-- THE SECOND FORM's CARD OF 'modelchecklaw14.AwaitLocal'. -/
def awaitLocalUptoCard : Claim7 := { stood := { row := awaitLocalUptoRow, standIns := [], harness := (true, "ea28f7f9f702f8263ade2b7fd5525b5496d028c8fff3fda362949673f93f3ef4"), looks := false }, kinds := [], alts := [], laidByText := true, laidKinds := [.data, .data], laidTests := true, laidLooks := .later }
def AwaitLocalUptoCardSaid : Prop := Claim7.holds Tryd.pinned (.plain (OpenSpec.upto awaitLocalSpec)) awaitLocalUptoCard
end Rows
end Go.Proofs.YtkanamdfjegcbaaDoor
