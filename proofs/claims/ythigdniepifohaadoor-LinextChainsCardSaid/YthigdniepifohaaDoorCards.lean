/-
  DERIVED. GIVEN WITH THE SEED: THE CARDS: each row of YthigdniepifohaaDoorRows.lean that lists a variable, with what it lists TIED to the program's text (the seventh form; the later family's looks); each row that meets fmt, with fmt's text TOLD by the authors' own Lean function (tested against real Go, not proved from fmt's source: count such statements apart). THE CARD IS WHAT COUNTS. Prove the row's statement (the work); the ties are given (YthigdniepifohaaDoorTie.lean); close each card by the builder's one call (the guide's Derived/Test/ToyasCard.lean, 'card_holds'). Laid BY PROGRAM, IN A SANDBOX (cutbox-door.mjs). By AI agents, Wed Nov 11 2026. No macro, syntax, notation, axiom, sorry.
-/
import Derived.Test.YthigdniepifohaaDoorRows
import GoSem.ClaimSeven
namespace Go.Proofs.YthigdniepifohaaDoor
namespace Rows

/-- THE TIED CARD OF 'modelchecklaw05.LinextIs'. -/
def linextIsCard : Claim7 := { stood := { row := linextIsRow, standIns := [], harness := (true, "6b5059ab7d870d3c7da54afd8149c5b1768613944842460cbe42ad4ad013dc5e"), looks := false }, kinds := [], alts := [], laidByText := true, laidKinds := [.data], laidTests := true, laidLooks := .later }
def LinextIsCardSaid : Prop := Claim7.holds Tryd.pinned (.plain (OpenSpec.ofChange linextIsSpec)) linextIsCard

/-- THE TIED CARD OF 'modelchecklaw05.LinextAll'. -/
def linextAllCard : Claim7 := { stood := { row := linextAllRow, standIns := [], harness := (true, "6b5059ab7d870d3c7da54afd8149c5b1768613944842460cbe42ad4ad013dc5e"), looks := false }, kinds := [], alts := [], laidByText := true, laidKinds := [.data], laidTests := true, laidLooks := .later }
def LinextAllCardSaid : Prop := Claim7.holds Tryd.pinned (.plain (OpenSpec.ofChange linextAllSpec)) linextAllCard

/-- THE TIED CARD OF 'modelchecklaw05.LinextCount'. -/
def linextCountCard : Claim7 := { stood := { row := linextCountRow, standIns := [], harness := (true, "6b5059ab7d870d3c7da54afd8149c5b1768613944842460cbe42ad4ad013dc5e"), looks := false }, kinds := [], alts := [], laidByText := true, laidKinds := [.data], laidTests := true, laidLooks := .later }
def LinextCountCardSaid : Prop := Claim7.holds Tryd.pinned (.plain (OpenSpec.ofChange linextCountSpec)) linextCountCard

/-- THE TIED CARD OF 'modelchecklaw05.LinextPlaces'. -/
def linextPlacesCard : Claim7 := { stood := { row := linextPlacesRow, standIns := [], harness := (true, "6b5059ab7d870d3c7da54afd8149c5b1768613944842460cbe42ad4ad013dc5e"), looks := false }, kinds := [], alts := [], laidByText := true, laidKinds := [.data], laidTests := true, laidLooks := .later }
def LinextPlacesCardSaid : Prop := Claim7.holds Tryd.pinned (.plain (OpenSpec.ofChange linextPlacesSpec)) linextPlacesCard

/-- THE TIED CARD OF 'modelchecklaw05.LinextRank'. -/
def linextRankCard : Claim7 := { stood := { row := linextRankRow, standIns := [], harness := (true, "6b5059ab7d870d3c7da54afd8149c5b1768613944842460cbe42ad4ad013dc5e"), looks := false }, kinds := [], alts := [], laidByText := true, laidKinds := [.data], laidTests := true, laidLooks := .later }
def LinextRankCardSaid : Prop := Claim7.holds Tryd.pinned (.plain (OpenSpec.ofChange linextRankSpec)) linextRankCard

/-- THE TIED CARD OF 'modelchecklaw05.LinextChains'. -/
def linextChainsCard : Claim7 := { stood := { row := linextChainsRow, standIns := [], harness := (true, "6b5059ab7d870d3c7da54afd8149c5b1768613944842460cbe42ad4ad013dc5e"), looks := false }, kinds := [], alts := [], laidByText := true, laidKinds := [.data], laidTests := true, laidLooks := .later }
def LinextChainsCardSaid : Prop := Claim7.holds Tryd.pinned (.plain (OpenSpec.ofChange linextChainsSpec)) linextChainsCard

/-- THE TIED CARD OF 'modelchecklaw05.LinextPairs'. -/
def linextPairsCard : Claim7 := { stood := { row := linextPairsRow, standIns := [], harness := (true, "6b5059ab7d870d3c7da54afd8149c5b1768613944842460cbe42ad4ad013dc5e"), looks := false }, kinds := [], alts := [], laidByText := true, laidKinds := [.data], laidTests := true, laidLooks := .later }
def LinextPairsCardSaid : Prop := Claim7.holds Tryd.pinned (.plain (OpenSpec.ofChange linextPairsSpec)) linextPairsCard

/-- THE SECOND FORM's CARD OF 'modelchecklaw05.LinextIs'. -/
def linextIsUptoCard : Claim7 := { stood := { row := linextIsUptoRow, standIns := [], harness := (true, "6b5059ab7d870d3c7da54afd8149c5b1768613944842460cbe42ad4ad013dc5e"), looks := false }, kinds := [], alts := [], laidByText := true, laidKinds := [.data], laidTests := true, laidLooks := .later }
def LinextIsUptoCardSaid : Prop := Claim7.holds Tryd.pinned (.plain (OpenSpec.upto linextIsSpec)) linextIsUptoCard

/-- THE SECOND FORM's CARD OF 'modelchecklaw05.LinextAll'. -/
def linextAllUptoCard : Claim7 := { stood := { row := linextAllUptoRow, standIns := [], harness := (true, "6b5059ab7d870d3c7da54afd8149c5b1768613944842460cbe42ad4ad013dc5e"), looks := false }, kinds := [], alts := [], laidByText := true, laidKinds := [.data], laidTests := true, laidLooks := .later }
def LinextAllUptoCardSaid : Prop := Claim7.holds Tryd.pinned (.plain (OpenSpec.upto linextAllSpec)) linextAllUptoCard

/-- THE SECOND FORM's CARD OF 'modelchecklaw05.LinextCount'. -/
def linextCountUptoCard : Claim7 := { stood := { row := linextCountUptoRow, standIns := [], harness := (true, "6b5059ab7d870d3c7da54afd8149c5b1768613944842460cbe42ad4ad013dc5e"), looks := false }, kinds := [], alts := [], laidByText := true, laidKinds := [.data], laidTests := true, laidLooks := .later }
def LinextCountUptoCardSaid : Prop := Claim7.holds Tryd.pinned (.plain (OpenSpec.upto linextCountSpec)) linextCountUptoCard

/-- THE SECOND FORM's CARD OF 'modelchecklaw05.LinextPlaces'. -/
def linextPlacesUptoCard : Claim7 := { stood := { row := linextPlacesUptoRow, standIns := [], harness := (true, "6b5059ab7d870d3c7da54afd8149c5b1768613944842460cbe42ad4ad013dc5e"), looks := false }, kinds := [], alts := [], laidByText := true, laidKinds := [.data], laidTests := true, laidLooks := .later }
def LinextPlacesUptoCardSaid : Prop := Claim7.holds Tryd.pinned (.plain (OpenSpec.upto linextPlacesSpec)) linextPlacesUptoCard

/-- THE SECOND FORM's CARD OF 'modelchecklaw05.LinextRank'. -/
def linextRankUptoCard : Claim7 := { stood := { row := linextRankUptoRow, standIns := [], harness := (true, "6b5059ab7d870d3c7da54afd8149c5b1768613944842460cbe42ad4ad013dc5e"), looks := false }, kinds := [], alts := [], laidByText := true, laidKinds := [.data], laidTests := true, laidLooks := .later }
def LinextRankUptoCardSaid : Prop := Claim7.holds Tryd.pinned (.plain (OpenSpec.upto linextRankSpec)) linextRankUptoCard

/-- THE SECOND FORM's CARD OF 'modelchecklaw05.LinextChains'. -/
def linextChainsUptoCard : Claim7 := { stood := { row := linextChainsUptoRow, standIns := [], harness := (true, "6b5059ab7d870d3c7da54afd8149c5b1768613944842460cbe42ad4ad013dc5e"), looks := false }, kinds := [], alts := [], laidByText := true, laidKinds := [.data], laidTests := true, laidLooks := .later }
def LinextChainsUptoCardSaid : Prop := Claim7.holds Tryd.pinned (.plain (OpenSpec.upto linextChainsSpec)) linextChainsUptoCard

/-- THE SECOND FORM's CARD OF 'modelchecklaw05.LinextPairs'. -/
def linextPairsUptoCard : Claim7 := { stood := { row := linextPairsUptoRow, standIns := [], harness := (true, "6b5059ab7d870d3c7da54afd8149c5b1768613944842460cbe42ad4ad013dc5e"), looks := false }, kinds := [], alts := [], laidByText := true, laidKinds := [.data], laidTests := true, laidLooks := .later }
def LinextPairsUptoCardSaid : Prop := Claim7.holds Tryd.pinned (.plain (OpenSpec.upto linextPairsSpec)) linextPairsUptoCard
end Rows
end Go.Proofs.YthigdniepifohaaDoor
