/-
  DERIVED. GIVEN WITH THE SEED: THE CARDS: each row of YtibenegbjpoclabDoorRows.lean that lists a variable, with what it lists TIED to the program's text (the seventh form; the later family's looks); each row that meets fmt, with fmt's text TOLD by the authors' own Lean function (tested against real Go, not proved from fmt's source: count such statements apart). THE CARD IS WHAT COUNTS. Prove the row's statement (the work); the ties are given (YtibenegbjpoclabDoorTie.lean); close each card by the builder's one call (the guide's Derived/Test/ToyasCard.lean, 'card_holds'). Laid BY PROGRAM, IN A SANDBOX (cutbox-door.mjs). By AI agents, Wed Nov 11 2026. No macro, syntax, notation, axiom, sorry.
-/
import Derived.Test.YtibenegbjpoclabDoorRows
import GoSem.ClaimSeven
namespace Go.Proofs.YtibenegbjpoclabDoor
namespace Rows

/-- THE TIED CARD OF 'pllaw3.ExprTells'. -/
def exprTellsCard : Claim7 := { stood := { row := exprTellsRow, standIns := [], harness := (true, "60a17f428ca311401fc0d4db2717ebe9debb0c03e1490abd4e56cf2e09b88303"), looks := false }, kinds := [], alts := [], laidByText := true, laidKinds := [.data], laidTests := true, laidLooks := .later }
def ExprTellsCardSaid : Prop := Claim7.holds Tryd.pinned (.plain (OpenSpec.ofChange exprTellsSpec)) exprTellsCard

/-- THE TIED CARD OF 'pllaw3.ExprPrint'. -/
def exprPrintCard : Claim7 := { stood := { row := exprPrintRow, standIns := [], harness := (true, "60a17f428ca311401fc0d4db2717ebe9debb0c03e1490abd4e56cf2e09b88303"), looks := false }, kinds := [], alts := [], laidByText := true, laidKinds := [.data, .data, .data, .data], laidTests := true, laidLooks := .later }
def ExprPrintCardSaid : Prop := Claim7.holds Tryd.pinned (.plain (OpenSpec.ofChange exprPrintSpec)) exprPrintCard

/-- THE TIED CARD OF 'pllaw3.ExprMoves'. -/
def exprMovesCard : Claim7 := { stood := { row := exprMovesRow, standIns := [], harness := (true, "60a17f428ca311401fc0d4db2717ebe9debb0c03e1490abd4e56cf2e09b88303"), looks := false }, kinds := [], alts := [], laidByText := true, laidKinds := [.data, .data, .data, .data], laidTests := true, laidLooks := .later }
def ExprMovesCardSaid : Prop := Claim7.holds Tryd.pinned (.plain (OpenSpec.ofChange exprMovesSpec)) exprMovesCard

/-- THE SECOND FORM's CARD OF 'pllaw3.ExprTells'. -/
def exprTellsUptoCard : Claim7 := { stood := { row := exprTellsUptoRow, standIns := [], harness := (true, "60a17f428ca311401fc0d4db2717ebe9debb0c03e1490abd4e56cf2e09b88303"), looks := false }, kinds := [], alts := [], laidByText := true, laidKinds := [.data], laidTests := true, laidLooks := .later }
def ExprTellsUptoCardSaid : Prop := Claim7.holds Tryd.pinned (.plain (OpenSpec.upto exprTellsSpec)) exprTellsUptoCard

/-- THE SECOND FORM's CARD OF 'pllaw3.ExprPrint'. -/
def exprPrintUptoCard : Claim7 := { stood := { row := exprPrintUptoRow, standIns := [], harness := (true, "60a17f428ca311401fc0d4db2717ebe9debb0c03e1490abd4e56cf2e09b88303"), looks := false }, kinds := [], alts := [], laidByText := true, laidKinds := [.data, .data, .data, .data], laidTests := true, laidLooks := .later }
def ExprPrintUptoCardSaid : Prop := Claim7.holds Tryd.pinned (.plain (OpenSpec.upto exprPrintSpec)) exprPrintUptoCard

/-- THE SECOND FORM's CARD OF 'pllaw3.ExprMoves'. -/
def exprMovesUptoCard : Claim7 := { stood := { row := exprMovesUptoRow, standIns := [], harness := (true, "60a17f428ca311401fc0d4db2717ebe9debb0c03e1490abd4e56cf2e09b88303"), looks := false }, kinds := [], alts := [], laidByText := true, laidKinds := [.data, .data, .data, .data], laidTests := true, laidLooks := .later }
def ExprMovesUptoCardSaid : Prop := Claim7.holds Tryd.pinned (.plain (OpenSpec.upto exprMovesSpec)) exprMovesUptoCard
end Rows
end Go.Proofs.YtibenegbjpoclabDoor
