/-
  DERIVED. GIVEN WITH THE SEED: THE CARDS: each row of YtmbjahjkgjkbhaaDoorRows.lean that lists a variable, with what it lists TIED to the program's text (the seventh form; the later family's looks); each row that meets fmt, with fmt's text TOLD by the authors' own Lean function (tested against real Go, not proved from fmt's source: count such statements apart). THE CARD IS WHAT COUNTS. Prove the row's statement (the work); the ties are given (YtmbjahjkgjkbhaaDoorTie.lean); close each card by the builder's one call (the guide's Derived/Test/ToyasCard.lean, 'card_holds'). Laid BY PROGRAM, IN A SANDBOX (cutbox-door.mjs). By AI agents, Wed Nov 11 2026. No macro, syntax, notation, axiom, sorry.
-/
import Derived.Test.YtmbjahjkgjkbhaaDoorRows
import GoSem.ClaimSeven
namespace Go.Proofs.YtmbjahjkgjkbhaaDoor
namespace Rows

/-- THE TIED CARD OF 'pllaw10.WireTells'. -/
def wireTellsCard : Claim7 := { stood := { row := wireTellsRow, standIns := [], harness := (true, "7ded7c620b77957e5f4a464ee183f3f0f86fa9607523a7a2f28250b37627a1bb"), looks := false }, kinds := [], alts := [], laidByText := true, laidKinds := [.data], laidTests := true, laidLooks := .later }
def WireTellsCardSaid : Prop := Claim7.holds Tryd.pinned (.plain (OpenSpec.ofChange wireTellsSpec)) wireTellsCard

/-- THE TIED CARD OF 'pllaw10.WireTurns'. -/
def wireTurnsCard : Claim7 := { stood := { row := wireTurnsRow, standIns := [], harness := (true, "7ded7c620b77957e5f4a464ee183f3f0f86fa9607523a7a2f28250b37627a1bb"), looks := false }, kinds := [], alts := [], laidByText := true, laidKinds := [.data], laidTests := true, laidLooks := .later }
def WireTurnsCardSaid : Prop := Claim7.holds Tryd.pinned (.plain (OpenSpec.ofChange wireTurnsSpec)) wireTurnsCard

/-- THE TIED CARD OF 'pllaw10.WireByte'. -/
def wireByteCard : Claim7 := { stood := { row := wireByteRow, standIns := [], harness := (true, "7ded7c620b77957e5f4a464ee183f3f0f86fa9607523a7a2f28250b37627a1bb"), looks := false }, kinds := [], alts := [], laidByText := true, laidKinds := [.data], laidTests := true, laidLooks := .later }
def WireByteCardSaid : Prop := Claim7.holds Tryd.pinned (.plain (OpenSpec.ofChange wireByteSpec)) wireByteCard

/-- THE SECOND FORM's CARD OF 'pllaw10.WireTells'. -/
def wireTellsUptoCard : Claim7 := { stood := { row := wireTellsUptoRow, standIns := [], harness := (true, "7ded7c620b77957e5f4a464ee183f3f0f86fa9607523a7a2f28250b37627a1bb"), looks := false }, kinds := [], alts := [], laidByText := true, laidKinds := [.data], laidTests := true, laidLooks := .later }
def WireTellsUptoCardSaid : Prop := Claim7.holds Tryd.pinned (.plain (OpenSpec.upto wireTellsSpec)) wireTellsUptoCard

/-- THE SECOND FORM's CARD OF 'pllaw10.WireTurns'. -/
def wireTurnsUptoCard : Claim7 := { stood := { row := wireTurnsUptoRow, standIns := [], harness := (true, "7ded7c620b77957e5f4a464ee183f3f0f86fa9607523a7a2f28250b37627a1bb"), looks := false }, kinds := [], alts := [], laidByText := true, laidKinds := [.data], laidTests := true, laidLooks := .later }
def WireTurnsUptoCardSaid : Prop := Claim7.holds Tryd.pinned (.plain (OpenSpec.upto wireTurnsSpec)) wireTurnsUptoCard

/-- THE SECOND FORM's CARD OF 'pllaw10.WireByte'. -/
def wireByteUptoCard : Claim7 := { stood := { row := wireByteUptoRow, standIns := [], harness := (true, "7ded7c620b77957e5f4a464ee183f3f0f86fa9607523a7a2f28250b37627a1bb"), looks := false }, kinds := [], alts := [], laidByText := true, laidKinds := [.data], laidTests := true, laidLooks := .later }
def WireByteUptoCardSaid : Prop := Claim7.holds Tryd.pinned (.plain (OpenSpec.upto wireByteSpec)) wireByteUptoCard
end Rows
end Go.Proofs.YtmbjahjkgjkbhaaDoor
