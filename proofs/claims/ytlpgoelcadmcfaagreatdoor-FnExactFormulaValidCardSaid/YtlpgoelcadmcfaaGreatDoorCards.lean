/-
  DERIVED. GIVEN WITH THE SEED: THE CARDS: each row of YtlpgoelcadmcfaaGreatDoorRows.lean that lists a variable, with what it lists TIED to the program's text (the seventh form; the later family's looks); each row that meets fmt, with fmt's text TOLD by the authors' own Lean function (tested against real Go, not proved from fmt's source: count such statements apart). THE CARD IS WHAT COUNTS. Prove the row's statement (the work); the ties are given (YtlpgoelcadmcfaaGreatDoorTie.lean); close each card by the builder's one call (the guide's Derived/Test/ToyasCard.lean, 'card_holds'). Laid BY PROGRAM, IN A SANDBOX (cutbox-door.mjs). By AI agents, Wed Nov 11 2026. No macro, syntax, notation, axiom, sorry.
-/
import Derived.Test.YtlpgoelcadmcfaaGreatDoorRows
import GoSem.ClaimSeven
namespace Go.Proofs.YtlpgoelcadmcfaaGreatDoor
namespace Rows

/-- THE TIED CARD OF 'laws.FnExactFormulaValid'. -/
def fnExactFormulaValidCard : Claim7 := { stood := { row := fnExactFormulaValidRow, standIns := [], harness := (true, "71b3232b8206c12b4c6bb909164227d565f223b1e5e7d680cb3d3d47082211f4"), looks := true }, kinds := [], alts := [], laidByText := true, laidKinds := [.data, .data, .data, .sentinel, .sentinel], laidTests := true, laidLooks := .later }
def FnExactFormulaValidCardSaid : Prop := Claim7.holds Tryz.pinned (.plain (OpenSpec.ofChange fnExactFormulaValidSpec)) fnExactFormulaValidCard

/-- THE TIED CARD OF 'laws.FnExactFormulaClosed'. -/
def fnExactFormulaClosedCard : Claim7 := { stood := { row := fnExactFormulaClosedRow, standIns := [], harness := (true, "71b3232b8206c12b4c6bb909164227d565f223b1e5e7d680cb3d3d47082211f4"), looks := true }, kinds := [], alts := [], laidByText := true, laidKinds := [.data, .data, .data, .sentinel, .sentinel], laidTests := true, laidLooks := .later }
def FnExactFormulaClosedCardSaid : Prop := Claim7.holds Tryz.pinned (.plain (OpenSpec.ofChange fnExactFormulaClosedSpec)) fnExactFormulaClosedCard

/-- THE TIED CARD OF 'laws.FnExactFormulaPut'. -/
def fnExactFormulaPutCard : Claim7 := { stood := { row := fnExactFormulaPutRow, standIns := [], harness := (true, "71b3232b8206c12b4c6bb909164227d565f223b1e5e7d680cb3d3d47082211f4"), looks := true }, kinds := [], alts := [], laidByText := true, laidKinds := [.data, .data, .data, .sentinel, .sentinel], laidTests := true, laidLooks := .later }
def FnExactFormulaPutCardSaid : Prop := Claim7.holds Tryz.pinned (.plain (OpenSpec.ofChange fnExactFormulaPutSpec)) fnExactFormulaPutCard

/-- THE TIED CARD OF 'laws.FnExactExprValue'. -/
def fnExactExprValueCard : Claim7 := { stood := { row := fnExactExprValueRow, standIns := [], harness := (true, "71b3232b8206c12b4c6bb909164227d565f223b1e5e7d680cb3d3d47082211f4"), looks := true }, kinds := [], alts := [], laidByText := true, laidKinds := [.data, .data, .data, .sentinel, .sentinel], laidTests := true, laidLooks := .later }
def FnExactExprValueCardSaid : Prop := Claim7.holds Tryz.pinned (.plain (OpenSpec.ofChange fnExactExprValueSpec)) fnExactExprValueCard

/-- THE TIED CARD OF 'laws.FnExactKindValid'. -/
def fnExactKindValidCard : Claim7 := { stood := { row := fnExactKindValidRow, standIns := [], harness := (true, "71b3232b8206c12b4c6bb909164227d565f223b1e5e7d680cb3d3d47082211f4"), looks := true }, kinds := [], alts := [], laidByText := true, laidKinds := [.data, .data, .data, .sentinel, .sentinel], laidTests := true, laidLooks := .later }
def FnExactKindValidCardSaid : Prop := Claim7.holds Tryz.pinned (.plain (OpenSpec.ofChange fnExactKindValidSpec)) fnExactKindValidCard

/-- THE TIED CARD OF 'laws.FnExactKindCount'. -/
def fnExactKindCountCard : Claim7 := { stood := { row := fnExactKindCountRow, standIns := [], harness := (true, "71b3232b8206c12b4c6bb909164227d565f223b1e5e7d680cb3d3d47082211f4"), looks := true }, kinds := [], alts := [], laidByText := true, laidKinds := [.data, .data, .data, .sentinel, .sentinel], laidTests := true, laidLooks := .later }
def FnExactKindCountCardSaid : Prop := Claim7.holds Tryz.pinned (.plain (OpenSpec.ofChange fnExactKindCountSpec)) fnExactKindCountCard

/-- THE SECOND FORM's CARD OF 'laws.FnExactFormulaValid'. -/
def fnExactFormulaValidUptoCard : Claim7 := { stood := { row := fnExactFormulaValidUptoRow, standIns := [], harness := (true, "71b3232b8206c12b4c6bb909164227d565f223b1e5e7d680cb3d3d47082211f4"), looks := true }, kinds := [], alts := [], laidByText := true, laidKinds := [.data, .data, .data, .sentinel, .sentinel], laidTests := true, laidLooks := .later }
def FnExactFormulaValidUptoCardSaid : Prop := Claim7.holds Tryz.pinned (.plain (OpenSpec.upto fnExactFormulaValidSpec)) fnExactFormulaValidUptoCard

/-- THE SECOND FORM's CARD OF 'laws.FnExactFormulaClosed'. -/
def fnExactFormulaClosedUptoCard : Claim7 := { stood := { row := fnExactFormulaClosedUptoRow, standIns := [], harness := (true, "71b3232b8206c12b4c6bb909164227d565f223b1e5e7d680cb3d3d47082211f4"), looks := true }, kinds := [], alts := [], laidByText := true, laidKinds := [.data, .data, .data, .sentinel, .sentinel], laidTests := true, laidLooks := .later }
def FnExactFormulaClosedUptoCardSaid : Prop := Claim7.holds Tryz.pinned (.plain (OpenSpec.upto fnExactFormulaClosedSpec)) fnExactFormulaClosedUptoCard

/-- THE SECOND FORM's CARD OF 'laws.FnExactFormulaPut'. -/
def fnExactFormulaPutUptoCard : Claim7 := { stood := { row := fnExactFormulaPutUptoRow, standIns := [], harness := (true, "71b3232b8206c12b4c6bb909164227d565f223b1e5e7d680cb3d3d47082211f4"), looks := true }, kinds := [], alts := [], laidByText := true, laidKinds := [.data, .data, .data, .sentinel, .sentinel], laidTests := true, laidLooks := .later }
def FnExactFormulaPutUptoCardSaid : Prop := Claim7.holds Tryz.pinned (.plain (OpenSpec.upto fnExactFormulaPutSpec)) fnExactFormulaPutUptoCard

/-- THE SECOND FORM's CARD OF 'laws.FnExactExprValue'. -/
def fnExactExprValueUptoCard : Claim7 := { stood := { row := fnExactExprValueUptoRow, standIns := [], harness := (true, "71b3232b8206c12b4c6bb909164227d565f223b1e5e7d680cb3d3d47082211f4"), looks := true }, kinds := [], alts := [], laidByText := true, laidKinds := [.data, .data, .data, .sentinel, .sentinel], laidTests := true, laidLooks := .later }
def FnExactExprValueUptoCardSaid : Prop := Claim7.holds Tryz.pinned (.plain (OpenSpec.upto fnExactExprValueSpec)) fnExactExprValueUptoCard

/-- THE SECOND FORM's CARD OF 'laws.FnExactKindValid'. -/
def fnExactKindValidUptoCard : Claim7 := { stood := { row := fnExactKindValidUptoRow, standIns := [], harness := (true, "71b3232b8206c12b4c6bb909164227d565f223b1e5e7d680cb3d3d47082211f4"), looks := true }, kinds := [], alts := [], laidByText := true, laidKinds := [.data, .data, .data, .sentinel, .sentinel], laidTests := true, laidLooks := .later }
def FnExactKindValidUptoCardSaid : Prop := Claim7.holds Tryz.pinned (.plain (OpenSpec.upto fnExactKindValidSpec)) fnExactKindValidUptoCard

/-- THE SECOND FORM's CARD OF 'laws.FnExactKindCount'. -/
def fnExactKindCountUptoCard : Claim7 := { stood := { row := fnExactKindCountUptoRow, standIns := [], harness := (true, "71b3232b8206c12b4c6bb909164227d565f223b1e5e7d680cb3d3d47082211f4"), looks := true }, kinds := [], alts := [], laidByText := true, laidKinds := [.data, .data, .data, .sentinel, .sentinel], laidTests := true, laidLooks := .later }
def FnExactKindCountUptoCardSaid : Prop := Claim7.holds Tryz.pinned (.plain (OpenSpec.upto fnExactKindCountSpec)) fnExactKindCountUptoCard
end Rows
end Go.Proofs.YtlpgoelcadmcfaaGreatDoor
