/-
  DERIVED. GIVEN WITH THE SEED: THE CARDS: each row of YtlkachcidjkhhaaDoorRows.lean that lists a variable, with what it lists TIED to the program's text (the seventh form; the later family's looks); each row that meets fmt, with fmt's text TOLD by the authors' own Lean function (tested against real Go, not proved from fmt's source: count such statements apart). THE CARD IS WHAT COUNTS. Prove the row's statement (the work); the ties are given (YtlkachcidjkhhaaDoorTie.lean); close each card by the builder's one call (the guide's Derived/Test/ToyasCard.lean, 'card_holds'). Laid BY PROGRAM, IN A SANDBOX (cutbox-door.mjs). By AI agents, Wed Nov 11 2026. No macro, syntax, notation, axiom, sorry.
-/
import Derived.Test.YtlkachcidjkhhaaDoorRows
import GoSem.ClaimSeven
namespace Go.Proofs.YtlkachcidjkhhaaDoor
namespace Rows

/-- THE TIED CARD OF 'modelchecklaw01.ValueApply'. -/
def valueApplyCard : Claim7 := { stood := { row := valueApplyRow, standIns := [], harness := (true, "3403cdd64babea5653b511a9063280ef9d7ef99890492c620805506a3f056292"), looks := true }, kinds := [], alts := [], laidByText := true, laidKinds := [.data, .data, .data, .sentinel, .sentinel], laidTests := true, laidLooks := .later }
def ValueApplyCardSaid : Prop := Claim7.holds Tryd.pinned (.plain (OpenSpec.ofChange valueApplySpec)) valueApplyCard

/-- THE TIED CARD OF 'modelchecklaw01.ValueTexts'. -/
def valueTextsCard : Claim7 := { stood := { row := valueTextsRow, standIns := [], harness := (true, "3403cdd64babea5653b511a9063280ef9d7ef99890492c620805506a3f056292"), looks := true }, kinds := [], alts := [], laidByText := true, laidKinds := [.data, .data, .data, .sentinel, .sentinel], laidTests := true, laidLooks := .later }
def ValueTextsCardSaid : Prop := Claim7.holds Tryd.pinned (.plain (OpenSpec.ofChange valueTextsSpec)) valueTextsCard

/-- THE TIED CARD OF 'modelchecklaw01.ValueNames'. -/
def valueNamesCard : Claim7 := { stood := { row := valueNamesRow, standIns := [], harness := (true, "3403cdd64babea5653b511a9063280ef9d7ef99890492c620805506a3f056292"), looks := true }, kinds := [], alts := [], laidByText := true, laidKinds := [.data, .data, .data, .sentinel, .sentinel, .data], laidTests := true, laidLooks := .later }
def ValueNamesCardSaid : Prop := Claim7.holds Tryd.pinned (.plain (OpenSpec.ofChange valueNamesSpec)) valueNamesCard

/-- THE TIED CARD OF 'modelchecklaw01.ValueRing'. -/
def valueRingCard : Claim7 := { stood := { row := valueRingRow, standIns := [], harness := (true, "3403cdd64babea5653b511a9063280ef9d7ef99890492c620805506a3f056292"), looks := true }, kinds := [], alts := [], laidByText := true, laidKinds := [.data, .data, .data, .sentinel, .sentinel], laidTests := true, laidLooks := .later }
def ValueRingCardSaid : Prop := Claim7.holds Tryd.pinned (.plain (OpenSpec.ofChange valueRingSpec)) valueRingCard

/-- THE TIED CARD OF 'modelchecklaw01.ValueOrder'. -/
def valueOrderCard : Claim7 := { stood := { row := valueOrderRow, standIns := [], harness := (true, "3403cdd64babea5653b511a9063280ef9d7ef99890492c620805506a3f056292"), looks := true }, kinds := [], alts := [], laidByText := true, laidKinds := [.data, .data, .data, .sentinel, .sentinel], laidTests := true, laidLooks := .later }
def ValueOrderCardSaid : Prop := Claim7.holds Tryd.pinned (.plain (OpenSpec.ofChange valueOrderSpec)) valueOrderCard

/-- THE TIED CARD OF 'modelchecklaw01.ValueNotation'. -/
def valueNotationCard : Claim7 := { stood := { row := valueNotationRow, standIns := [], harness := (true, "3403cdd64babea5653b511a9063280ef9d7ef99890492c620805506a3f056292"), looks := true }, kinds := [], alts := [], laidByText := true, laidKinds := [.data, .data, .data, .sentinel, .sentinel], laidTests := true, laidLooks := .later }
def ValueNotationCardSaid : Prop := Claim7.holds Tryd.pinned (.plain (OpenSpec.ofChange valueNotationSpec)) valueNotationCard

/-- THE SECOND FORM's CARD OF 'modelchecklaw01.ValueApply'. -/
def valueApplyUptoCard : Claim7 := { stood := { row := valueApplyUptoRow, standIns := [], harness := (true, "3403cdd64babea5653b511a9063280ef9d7ef99890492c620805506a3f056292"), looks := true }, kinds := [], alts := [], laidByText := true, laidKinds := [.data, .data, .data, .sentinel, .sentinel], laidTests := true, laidLooks := .later }
def ValueApplyUptoCardSaid : Prop := Claim7.holds Tryd.pinned (.plain (OpenSpec.upto valueApplySpec)) valueApplyUptoCard

/-- THE SECOND FORM's CARD OF 'modelchecklaw01.ValueTexts'. -/
def valueTextsUptoCard : Claim7 := { stood := { row := valueTextsUptoRow, standIns := [], harness := (true, "3403cdd64babea5653b511a9063280ef9d7ef99890492c620805506a3f056292"), looks := true }, kinds := [], alts := [], laidByText := true, laidKinds := [.data, .data, .data, .sentinel, .sentinel], laidTests := true, laidLooks := .later }
def ValueTextsUptoCardSaid : Prop := Claim7.holds Tryd.pinned (.plain (OpenSpec.upto valueTextsSpec)) valueTextsUptoCard

/-- THE SECOND FORM's CARD OF 'modelchecklaw01.ValueNames'. -/
def valueNamesUptoCard : Claim7 := { stood := { row := valueNamesUptoRow, standIns := [], harness := (true, "3403cdd64babea5653b511a9063280ef9d7ef99890492c620805506a3f056292"), looks := true }, kinds := [], alts := [], laidByText := true, laidKinds := [.data, .data, .data, .sentinel, .sentinel, .data], laidTests := true, laidLooks := .later }
def ValueNamesUptoCardSaid : Prop := Claim7.holds Tryd.pinned (.plain (OpenSpec.upto valueNamesSpec)) valueNamesUptoCard

/-- THE SECOND FORM's CARD OF 'modelchecklaw01.ValueRing'. -/
def valueRingUptoCard : Claim7 := { stood := { row := valueRingUptoRow, standIns := [], harness := (true, "3403cdd64babea5653b511a9063280ef9d7ef99890492c620805506a3f056292"), looks := true }, kinds := [], alts := [], laidByText := true, laidKinds := [.data, .data, .data, .sentinel, .sentinel], laidTests := true, laidLooks := .later }
def ValueRingUptoCardSaid : Prop := Claim7.holds Tryd.pinned (.plain (OpenSpec.upto valueRingSpec)) valueRingUptoCard

/-- THE SECOND FORM's CARD OF 'modelchecklaw01.ValueOrder'. -/
def valueOrderUptoCard : Claim7 := { stood := { row := valueOrderUptoRow, standIns := [], harness := (true, "3403cdd64babea5653b511a9063280ef9d7ef99890492c620805506a3f056292"), looks := true }, kinds := [], alts := [], laidByText := true, laidKinds := [.data, .data, .data, .sentinel, .sentinel], laidTests := true, laidLooks := .later }
def ValueOrderUptoCardSaid : Prop := Claim7.holds Tryd.pinned (.plain (OpenSpec.upto valueOrderSpec)) valueOrderUptoCard

/-- THE SECOND FORM's CARD OF 'modelchecklaw01.ValueNotation'. -/
def valueNotationUptoCard : Claim7 := { stood := { row := valueNotationUptoRow, standIns := [], harness := (true, "3403cdd64babea5653b511a9063280ef9d7ef99890492c620805506a3f056292"), looks := true }, kinds := [], alts := [], laidByText := true, laidKinds := [.data, .data, .data, .sentinel, .sentinel], laidTests := true, laidLooks := .later }
def ValueNotationUptoCardSaid : Prop := Claim7.holds Tryd.pinned (.plain (OpenSpec.upto valueNotationSpec)) valueNotationUptoCard
end Rows
end Go.Proofs.YtlkachcidjkhhaaDoor
