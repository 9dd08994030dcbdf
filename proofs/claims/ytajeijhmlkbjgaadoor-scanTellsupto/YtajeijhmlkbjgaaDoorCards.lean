/-
  DERIVED. GIVEN WITH THE SEED: THE CARDS: each row of YtajeijhmlkbjgaaDoorRows.lean that lists a variable, with what it lists TIED to the program's text (the seventh form; the later family's looks); each row that meets fmt, with fmt's text TOLD by the authors' own Lean function (tested against real Go, not proved from fmt's source: count such statements apart). THE CARD IS WHAT COUNTS. Prove the row's statement (the work); the ties are given (YtajeijhmlkbjgaaDoorTie.lean); close each card by the builder's one call (the guide's Derived/Test/ToyasCard.lean, 'card_holds'). Laid BY PROGRAM, IN A SANDBOX (cutbox-door.mjs). By AI agents, Wed Nov 11 2026. No macro, syntax, notation, axiom, sorry.
-/
import Derived.Test.YtajeijhmlkbjgaaDoorRows
import GoSem.ClaimSeven
namespace Go.Proofs.YtajeijhmlkbjgaaDoor
namespace Rows

/-- THE TIED CARD OF 'pllaw1.IsaTells'. -/
def isaTellsCard : Claim7 := { stood := { row := isaTellsRow, standIns := [], harness := (true, "3d87e7df85389003a0be444ac7a27cca4d0578f540ca9fdaa2fa431d3cde5c6d"), looks := true }, kinds := [], alts := [], laidByText := true, laidKinds := [.data, .data], laidTests := true, laidLooks := .later }
def IsaTellsCardSaid : Prop := Claim7.holds Tryd.pinned (.plain (OpenSpec.ofChange isaTellsSpec)) isaTellsCard

/-- THE TIED CARD OF 'pllaw1.IsaTurns'. -/
def isaTurnsCard : Claim7 := { stood := { row := isaTurnsRow, standIns := [], harness := (true, "3d87e7df85389003a0be444ac7a27cca4d0578f540ca9fdaa2fa431d3cde5c6d"), looks := true }, kinds := [], alts := [], laidByText := true, laidKinds := [.data, .data], laidTests := true, laidLooks := .later }
def IsaTurnsCardSaid : Prop := Claim7.holds Tryd.pinned (.plain (OpenSpec.ofChange isaTurnsSpec)) isaTurnsCard

/-- THE TIED CARD OF 'pllaw1.IsaBytes'. -/
def isaBytesCard : Claim7 := { stood := { row := isaBytesRow, standIns := [], harness := (true, "3d87e7df85389003a0be444ac7a27cca4d0578f540ca9fdaa2fa431d3cde5c6d"), looks := true }, kinds := [], alts := [], laidByText := true, laidKinds := [.data, .data], laidTests := true, laidLooks := .later }
def IsaBytesCardSaid : Prop := Claim7.holds Tryd.pinned (.plain (OpenSpec.ofChange isaBytesSpec)) isaBytesCard

/-- THE TIED CARD OF 'pllaw2.ScanTells'. -/
def scanTellsCard : Claim7 := { stood := { row := scanTellsRow, standIns := [], harness := (true, "3d87e7df85389003a0be444ac7a27cca4d0578f540ca9fdaa2fa431d3cde5c6d"), looks := true }, kinds := [], alts := [], laidByText := true, laidKinds := [.data, .data, .data, .data, .sentinel, .sentinel, .pinned], laidTests := true, laidLooks := .later }
def ScanTellsCardSaid : Prop := Claim7.holds Tryd.pinned (.plain (OpenSpec.ofChange scanTellsSpec)) scanTellsCard

/-- THE TIED CARD OF 'pllaw2.ScanPrint'. -/
def scanPrintCard : Claim7 := { stood := { row := scanPrintRow, standIns := [], harness := (true, "3d87e7df85389003a0be444ac7a27cca4d0578f540ca9fdaa2fa431d3cde5c6d"), looks := true }, kinds := [], alts := [], laidByText := true, laidKinds := [.data, .data, .data, .data, .sentinel, .sentinel, .pinned], laidTests := true, laidLooks := .later }
def ScanPrintCardSaid : Prop := Claim7.holds Tryd.pinned (.plain (OpenSpec.ofChange scanPrintSpec)) scanPrintCard

/-- THE TIED CARD OF 'pllaw2.ScanLines'. -/
def scanLinesCard : Claim7 := { stood := { row := scanLinesRow, standIns := [], harness := (true, "3d87e7df85389003a0be444ac7a27cca4d0578f540ca9fdaa2fa431d3cde5c6d"), looks := true }, kinds := [], alts := [], laidByText := true, laidKinds := [.data, .data, .data, .data, .sentinel, .sentinel, .pinned], laidTests := true, laidLooks := .later }
def ScanLinesCardSaid : Prop := Claim7.holds Tryd.pinned (.plain (OpenSpec.ofChange scanLinesSpec)) scanLinesCard

/-- THE SECOND FORM's CARD OF 'pllaw1.IsaTells'. -/
def isaTellsUptoCard : Claim7 := { stood := { row := isaTellsUptoRow, standIns := [], harness := (true, "3d87e7df85389003a0be444ac7a27cca4d0578f540ca9fdaa2fa431d3cde5c6d"), looks := true }, kinds := [], alts := [], laidByText := true, laidKinds := [.data, .data], laidTests := true, laidLooks := .later }
def IsaTellsUptoCardSaid : Prop := Claim7.holds Tryd.pinned (.plain (OpenSpec.upto isaTellsSpec)) isaTellsUptoCard

/-- THE SECOND FORM's CARD OF 'pllaw1.IsaTurns'. -/
def isaTurnsUptoCard : Claim7 := { stood := { row := isaTurnsUptoRow, standIns := [], harness := (true, "3d87e7df85389003a0be444ac7a27cca4d0578f540ca9fdaa2fa431d3cde5c6d"), looks := true }, kinds := [], alts := [], laidByText := true, laidKinds := [.data, .data], laidTests := true, laidLooks := .later }
def IsaTurnsUptoCardSaid : Prop := Claim7.holds Tryd.pinned (.plain (OpenSpec.upto isaTurnsSpec)) isaTurnsUptoCard

/-- THE SECOND FORM's CARD OF 'pllaw1.IsaBytes'. -/
def isaBytesUptoCard : Claim7 := { stood := { row := isaBytesUptoRow, standIns := [], harness := (true, "3d87e7df85389003a0be444ac7a27cca4d0578f540ca9fdaa2fa431d3cde5c6d"), looks := true }, kinds := [], alts := [], laidByText := true, laidKinds := [.data, .data], laidTests := true, laidLooks := .later }
def IsaBytesUptoCardSaid : Prop := Claim7.holds Tryd.pinned (.plain (OpenSpec.upto isaBytesSpec)) isaBytesUptoCard

/-- THE SECOND FORM's CARD OF 'pllaw2.ScanTells'. -/
def scanTellsUptoCard : Claim7 := { stood := { row := scanTellsUptoRow, standIns := [], harness := (true, "3d87e7df85389003a0be444ac7a27cca4d0578f540ca9fdaa2fa431d3cde5c6d"), looks := true }, kinds := [], alts := [], laidByText := true, laidKinds := [.data, .data, .data, .data, .sentinel, .sentinel, .pinned], laidTests := true, laidLooks := .later }
def ScanTellsUptoCardSaid : Prop := Claim7.holds Tryd.pinned (.plain (OpenSpec.upto scanTellsSpec)) scanTellsUptoCard

/-- THE SECOND FORM's CARD OF 'pllaw2.ScanPrint'. -/
def scanPrintUptoCard : Claim7 := { stood := { row := scanPrintUptoRow, standIns := [], harness := (true, "3d87e7df85389003a0be444ac7a27cca4d0578f540ca9fdaa2fa431d3cde5c6d"), looks := true }, kinds := [], alts := [], laidByText := true, laidKinds := [.data, .data, .data, .data, .sentinel, .sentinel, .pinned], laidTests := true, laidLooks := .later }
def ScanPrintUptoCardSaid : Prop := Claim7.holds Tryd.pinned (.plain (OpenSpec.upto scanPrintSpec)) scanPrintUptoCard

/-- THE SECOND FORM's CARD OF 'pllaw2.ScanLines'. -/
def scanLinesUptoCard : Claim7 := { stood := { row := scanLinesUptoRow, standIns := [], harness := (true, "3d87e7df85389003a0be444ac7a27cca4d0578f540ca9fdaa2fa431d3cde5c6d"), looks := true }, kinds := [], alts := [], laidByText := true, laidKinds := [.data, .data, .data, .data, .sentinel, .sentinel, .pinned], laidTests := true, laidLooks := .later }
def ScanLinesUptoCardSaid : Prop := Claim7.holds Tryd.pinned (.plain (OpenSpec.upto scanLinesSpec)) scanLinesUptoCard
end Rows
end Go.Proofs.YtajeijhmlkbjgaaDoor
