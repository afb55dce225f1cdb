/-
  DERIVED. GIVEN WITH THE SEED: THE CARDS: each row of YtjoffidlfkmelaaDoorRows.lean that lists a variable, with what it lists TIED to the program's text (the seventh form; the later family's looks); each row that meets fmt, with fmt's text TOLD by the authors' own Lean function (tested against real Go, not proved from fmt's source: count such statements apart). THE CARD IS WHAT COUNTS. Prove the row's statement (the work); the ties are given (YtjoffidlfkmelaaDoorTie.lean); close each card by the builder's one call (the guide's Derived/Test/ToyasCard.lean, 'card_holds'). Laid BY PROGRAM, IN A SANDBOX (cutbox-door.mjs). By AI agents, Wed Nov 11 2026. No macro, syntax, notation, axiom, sorry.
-/
import Derived.Test.YtjoffidlfkmelaaDoorRows
import GoSem.ClaimSeven
namespace Go.Proofs.YtjoffidlfkmelaaDoor
namespace Rows

/-- THE TIED CARD OF 'modelchecklaw12.CfgNext'. -/
def cfgNextCard : Claim7 := { stood := { row := cfgNextRow, standIns := [], harness := (true, "b2a8548c4d17e7f5970da11867232b5055a350e0ca4187784b910dd6c36d4967"), looks := false }, kinds := [], alts := [], laidByText := true, laidKinds := [.data, .data], laidTests := true, laidLooks := .later }
def CfgNextCardSaid : Prop := Claim7.holds Tryd.pinned (.plain (OpenSpec.ofChange cfgNextSpec)) cfgNextCard

/-- THE TIED CARD OF 'modelchecklaw12.CfgLeaders'. -/
def cfgLeadersCard : Claim7 := { stood := { row := cfgLeadersRow, standIns := [], harness := (true, "b2a8548c4d17e7f5970da11867232b5055a350e0ca4187784b910dd6c36d4967"), looks := false }, kinds := [], alts := [], laidByText := true, laidKinds := [.data, .data], laidTests := true, laidLooks := .later }
def CfgLeadersCardSaid : Prop := Claim7.holds Tryd.pinned (.plain (OpenSpec.ofChange cfgLeadersSpec)) cfgLeadersCard

/-- THE TIED CARD OF 'modelchecklaw12.CfgLoops'. -/
def cfgLoopsCard : Claim7 := { stood := { row := cfgLoopsRow, standIns := [], harness := (true, "b2a8548c4d17e7f5970da11867232b5055a350e0ca4187784b910dd6c36d4967"), looks := false }, kinds := [], alts := [], laidByText := true, laidKinds := [.data, .data], laidTests := true, laidLooks := .later }
def CfgLoopsCardSaid : Prop := Claim7.holds Tryd.pinned (.plain (OpenSpec.ofChange cfgLoopsSpec)) cfgLoopsCard

/-- THE TIED CARD OF 'modelchecklaw12.CfgDominators'. -/
def cfgDominatorsCard : Claim7 := { stood := { row := cfgDominatorsRow, standIns := [], harness := (true, "b2a8548c4d17e7f5970da11867232b5055a350e0ca4187784b910dd6c36d4967"), looks := false }, kinds := [], alts := [], laidByText := true, laidKinds := [.data, .data], laidTests := true, laidLooks := .later }
def CfgDominatorsCardSaid : Prop := Claim7.holds Tryd.pinned (.plain (OpenSpec.ofChange cfgDominatorsSpec)) cfgDominatorsCard

/-- THE TIED CARD OF 'modelchecklaw12.CfgHeaders'. -/
def cfgHeadersCard : Claim7 := { stood := { row := cfgHeadersRow, standIns := [], harness := (true, "b2a8548c4d17e7f5970da11867232b5055a350e0ca4187784b910dd6c36d4967"), looks := false }, kinds := [], alts := [], laidByText := true, laidKinds := [.data, .data], laidTests := true, laidLooks := .later }
def CfgHeadersCardSaid : Prop := Claim7.holds Tryd.pinned (.plain (OpenSpec.ofChange cfgHeadersSpec)) cfgHeadersCard

/-- THE SECOND FORM's CARD OF 'modelchecklaw12.CfgNext'. -/
def cfgNextUptoCard : Claim7 := { stood := { row := cfgNextUptoRow, standIns := [], harness := (true, "b2a8548c4d17e7f5970da11867232b5055a350e0ca4187784b910dd6c36d4967"), looks := false }, kinds := [], alts := [], laidByText := true, laidKinds := [.data, .data], laidTests := true, laidLooks := .later }
def CfgNextUptoCardSaid : Prop := Claim7.holds Tryd.pinned (.plain (OpenSpec.upto cfgNextSpec)) cfgNextUptoCard

/-- THE SECOND FORM's CARD OF 'modelchecklaw12.CfgLeaders'. -/
def cfgLeadersUptoCard : Claim7 := { stood := { row := cfgLeadersUptoRow, standIns := [], harness := (true, "b2a8548c4d17e7f5970da11867232b5055a350e0ca4187784b910dd6c36d4967"), looks := false }, kinds := [], alts := [], laidByText := true, laidKinds := [.data, .data], laidTests := true, laidLooks := .later }
def CfgLeadersUptoCardSaid : Prop := Claim7.holds Tryd.pinned (.plain (OpenSpec.upto cfgLeadersSpec)) cfgLeadersUptoCard

/-- THE SECOND FORM's CARD OF 'modelchecklaw12.CfgLoops'. -/
def cfgLoopsUptoCard : Claim7 := { stood := { row := cfgLoopsUptoRow, standIns := [], harness := (true, "b2a8548c4d17e7f5970da11867232b5055a350e0ca4187784b910dd6c36d4967"), looks := false }, kinds := [], alts := [], laidByText := true, laidKinds := [.data, .data], laidTests := true, laidLooks := .later }
def CfgLoopsUptoCardSaid : Prop := Claim7.holds Tryd.pinned (.plain (OpenSpec.upto cfgLoopsSpec)) cfgLoopsUptoCard

/-- THE SECOND FORM's CARD OF 'modelchecklaw12.CfgDominators'. -/
def cfgDominatorsUptoCard : Claim7 := { stood := { row := cfgDominatorsUptoRow, standIns := [], harness := (true, "b2a8548c4d17e7f5970da11867232b5055a350e0ca4187784b910dd6c36d4967"), looks := false }, kinds := [], alts := [], laidByText := true, laidKinds := [.data, .data], laidTests := true, laidLooks := .later }
def CfgDominatorsUptoCardSaid : Prop := Claim7.holds Tryd.pinned (.plain (OpenSpec.upto cfgDominatorsSpec)) cfgDominatorsUptoCard

/-- THE SECOND FORM's CARD OF 'modelchecklaw12.CfgHeaders'. -/
def cfgHeadersUptoCard : Claim7 := { stood := { row := cfgHeadersUptoRow, standIns := [], harness := (true, "b2a8548c4d17e7f5970da11867232b5055a350e0ca4187784b910dd6c36d4967"), looks := false }, kinds := [], alts := [], laidByText := true, laidKinds := [.data, .data], laidTests := true, laidLooks := .later }
def CfgHeadersUptoCardSaid : Prop := Claim7.holds Tryd.pinned (.plain (OpenSpec.upto cfgHeadersSpec)) cfgHeadersUptoCard
end Rows
end Go.Proofs.YtjoffidlfkmelaaDoor
