/-
  DERIVED. GIVEN WITH THE SEED: THE CARDS: each row of YtdjoafnohkmneaaGreatDoorRows.lean that lists a variable, with what it lists TIED to the program's text (the seventh form; the later family's looks); each row that meets fmt, with fmt's text TOLD by the authors' own Lean function (tested against real Go, not proved from fmt's source: count such statements apart). THE CARD IS WHAT COUNTS. Prove the row's statement (the work); the ties are given (YtdjoafnohkmneaaGreatDoorTie.lean); close each card by the builder's one call (the guide's Derived/Test/ToyasCard.lean, 'card_holds'). Laid BY PROGRAM, IN A SANDBOX (cutbox-door.mjs). By AI agents, Wed Nov 11 2026. No macro, syntax, notation, axiom, sorry.
-/
import Derived.Test.YtdjoafnohkmneaaGreatDoorRows
import GoSem.ClaimSeven
namespace Go.Proofs.YtdjoafnohkmneaaGreatDoor
namespace Rows

/-- THE TIED CARD OF 'laws.FnExactFormulaPut'. -/
def fnExactFormulaPutCard : Claim7 := { stood := { row := fnExactFormulaPutRow, standIns := [], harness := (true, "8a37135832a33b19fa84f1debff3e39ee944b078e69d9ed4b3c4fb754fee1643"), looks := true }, kinds := [], alts := [], laidByText := true, laidKinds := [.data, .data, .data, .sentinel, .sentinel], laidTests := true, laidLooks := .later }
def FnExactFormulaPutCardSaid : Prop := Claim7.holds Tryz.pinned (.plain (OpenSpec.ofChange fnExactFormulaPutSpec)) fnExactFormulaPutCard

/-- THE TIED CARD OF 'laws.FnExactExprValue'. -/
def fnExactExprValueCard : Claim7 := { stood := { row := fnExactExprValueRow, standIns := [], harness := (true, "8a37135832a33b19fa84f1debff3e39ee944b078e69d9ed4b3c4fb754fee1643"), looks := true }, kinds := [], alts := [], laidByText := true, laidKinds := [.data, .data, .data, .sentinel, .sentinel], laidTests := true, laidLooks := .later }
def FnExactExprValueCardSaid : Prop := Claim7.holds Tryz.pinned (.plain (OpenSpec.ofChange fnExactExprValueSpec)) fnExactExprValueCard

/-- THE TIED CARD OF 'laws.FnExactFormulaHolds'. -/
def fnExactFormulaHoldsCard : Claim7 := { stood := { row := fnExactFormulaHoldsRow, standIns := [], harness := (true, "8a37135832a33b19fa84f1debff3e39ee944b078e69d9ed4b3c4fb754fee1643"), looks := true }, kinds := [], alts := [], laidByText := true, laidKinds := [.data, .data, .data, .handle, .sentinel, .sentinel], laidTests := true, laidLooks := .later }
def FnExactFormulaHoldsCardSaid : Prop := Claim7.holds Tryz.pinned (.plain (OpenSpec.ofChange fnExactFormulaHoldsSpec)) fnExactFormulaHoldsCard

/-- THE TIED CARD OF 'laws.FnFormula'. -/
def fnFormulaCard : Claim7 := { stood := { row := fnFormulaRow, standIns := [], harness := (true, "8a37135832a33b19fa84f1debff3e39ee944b078e69d9ed4b3c4fb754fee1643"), looks := true }, kinds := [], alts := [], laidByText := true, laidKinds := [.data, .data, .data, .sentinel, .sentinel], laidTests := true, laidLooks := .later }
def FnFormulaCardSaid : Prop := Claim7.holds Tryz.pinned (.plain (OpenSpec.ofChange fnFormulaSpec)) fnFormulaCard

/-- THE TIED CARD OF 'laws.FnClosedFormula'. -/
def fnClosedFormulaCard : Claim7 := { stood := { row := fnClosedFormulaRow, standIns := [], harness := (true, "8a37135832a33b19fa84f1debff3e39ee944b078e69d9ed4b3c4fb754fee1643"), looks := true }, kinds := [], alts := [], laidByText := true, laidKinds := [.data, .data, .data, .handle, .sentinel, .sentinel], laidTests := true, laidLooks := .later }
def FnClosedFormulaCardSaid : Prop := Claim7.holds Tryz.pinned (.plain (OpenSpec.ofChange fnClosedFormulaSpec)) fnClosedFormulaCard

/-- THE TIED CARD OF 'laws.FnFormulaPut'. -/
def fnFormulaPutCard : Claim7 := { stood := { row := fnFormulaPutRow, standIns := [], harness := (true, "8a37135832a33b19fa84f1debff3e39ee944b078e69d9ed4b3c4fb754fee1643"), looks := true }, kinds := [], alts := [], laidByText := true, laidKinds := [.data, .data, .data, .handle, .sentinel, .sentinel], laidTests := true, laidLooks := .later }
def FnFormulaPutCardSaid : Prop := Claim7.holds Tryz.pinned (.plain (OpenSpec.ofChange fnFormulaPutSpec)) fnFormulaPutCard

/-- THE TIED CARD OF 'laws.FnExpr'. -/
def fnExprCard : Claim7 := { stood := { row := fnExprRow, standIns := [], harness := (true, "8a37135832a33b19fa84f1debff3e39ee944b078e69d9ed4b3c4fb754fee1643"), looks := true }, kinds := [], alts := [], laidByText := true, laidKinds := [.data, .data, .data, .handle, .sentinel, .sentinel], laidTests := true, laidLooks := .later }
def FnExprCardSaid : Prop := Claim7.holds Tryz.pinned (.plain (OpenSpec.ofChange fnExprSpec)) fnExprCard

/-- THE SECOND FORM's CARD OF 'laws.FnExactFormulaPut'. -/
def fnExactFormulaPutUptoCard : Claim7 := { stood := { row := fnExactFormulaPutUptoRow, standIns := [], harness := (true, "8a37135832a33b19fa84f1debff3e39ee944b078e69d9ed4b3c4fb754fee1643"), looks := true }, kinds := [], alts := [], laidByText := true, laidKinds := [.data, .data, .data, .sentinel, .sentinel], laidTests := true, laidLooks := .later }
def FnExactFormulaPutUptoCardSaid : Prop := Claim7.holds Tryz.pinned (.plain (OpenSpec.upto fnExactFormulaPutSpec)) fnExactFormulaPutUptoCard

/-- THE SECOND FORM's CARD OF 'laws.FnExactExprValue'. -/
def fnExactExprValueUptoCard : Claim7 := { stood := { row := fnExactExprValueUptoRow, standIns := [], harness := (true, "8a37135832a33b19fa84f1debff3e39ee944b078e69d9ed4b3c4fb754fee1643"), looks := true }, kinds := [], alts := [], laidByText := true, laidKinds := [.data, .data, .data, .sentinel, .sentinel], laidTests := true, laidLooks := .later }
def FnExactExprValueUptoCardSaid : Prop := Claim7.holds Tryz.pinned (.plain (OpenSpec.upto fnExactExprValueSpec)) fnExactExprValueUptoCard

/-- THE SECOND FORM's CARD OF 'laws.FnExactFormulaHolds'. -/
def fnExactFormulaHoldsUptoCard : Claim7 := { stood := { row := fnExactFormulaHoldsUptoRow, standIns := [], harness := (true, "8a37135832a33b19fa84f1debff3e39ee944b078e69d9ed4b3c4fb754fee1643"), looks := true }, kinds := [], alts := [], laidByText := true, laidKinds := [.data, .data, .data, .handle, .sentinel, .sentinel], laidTests := true, laidLooks := .later }
def FnExactFormulaHoldsUptoCardSaid : Prop := Claim7.holds Tryz.pinned (.plain (OpenSpec.upto fnExactFormulaHoldsSpec)) fnExactFormulaHoldsUptoCard

/-- THE SECOND FORM's CARD OF 'laws.FnFormula'. -/
def fnFormulaUptoCard : Claim7 := { stood := { row := fnFormulaUptoRow, standIns := [], harness := (true, "8a37135832a33b19fa84f1debff3e39ee944b078e69d9ed4b3c4fb754fee1643"), looks := true }, kinds := [], alts := [], laidByText := true, laidKinds := [.data, .data, .data, .sentinel, .sentinel], laidTests := true, laidLooks := .later }
def FnFormulaUptoCardSaid : Prop := Claim7.holds Tryz.pinned (.plain (OpenSpec.upto fnFormulaSpec)) fnFormulaUptoCard

/-- THE SECOND FORM's CARD OF 'laws.FnClosedFormula'. -/
def fnClosedFormulaUptoCard : Claim7 := { stood := { row := fnClosedFormulaUptoRow, standIns := [], harness := (true, "8a37135832a33b19fa84f1debff3e39ee944b078e69d9ed4b3c4fb754fee1643"), looks := true }, kinds := [], alts := [], laidByText := true, laidKinds := [.data, .data, .data, .handle, .sentinel, .sentinel], laidTests := true, laidLooks := .later }
def FnClosedFormulaUptoCardSaid : Prop := Claim7.holds Tryz.pinned (.plain (OpenSpec.upto fnClosedFormulaSpec)) fnClosedFormulaUptoCard

/-- THE SECOND FORM's CARD OF 'laws.FnFormulaPut'. -/
def fnFormulaPutUptoCard : Claim7 := { stood := { row := fnFormulaPutUptoRow, standIns := [], harness := (true, "8a37135832a33b19fa84f1debff3e39ee944b078e69d9ed4b3c4fb754fee1643"), looks := true }, kinds := [], alts := [], laidByText := true, laidKinds := [.data, .data, .data, .handle, .sentinel, .sentinel], laidTests := true, laidLooks := .later }
def FnFormulaPutUptoCardSaid : Prop := Claim7.holds Tryz.pinned (.plain (OpenSpec.upto fnFormulaPutSpec)) fnFormulaPutUptoCard

/-- THE SECOND FORM's CARD OF 'laws.FnExpr'. -/
def fnExprUptoCard : Claim7 := { stood := { row := fnExprUptoRow, standIns := [], harness := (true, "8a37135832a33b19fa84f1debff3e39ee944b078e69d9ed4b3c4fb754fee1643"), looks := true }, kinds := [], alts := [], laidByText := true, laidKinds := [.data, .data, .data, .handle, .sentinel, .sentinel], laidTests := true, laidLooks := .later }
def FnExprUptoCardSaid : Prop := Claim7.holds Tryz.pinned (.plain (OpenSpec.upto fnExprSpec)) fnExprUptoCard
end Rows
end Go.Proofs.YtdjoafnohkmneaaGreatDoor
