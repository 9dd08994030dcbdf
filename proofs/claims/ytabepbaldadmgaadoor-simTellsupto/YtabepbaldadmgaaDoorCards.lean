/-
  DERIVED. GIVEN WITH THE SEED: THE CARDS: each row of YtabepbaldadmgaaDoorRows.lean that lists a variable, with what it lists TIED to the program's text (the seventh form; the later family's looks); each row that meets fmt, with fmt's text TOLD by the authors' own Lean function (tested against real Go, not proved from fmt's source: count such statements apart). THE CARD IS WHAT COUNTS. Prove the row's statement (the work); the ties are given (YtabepbaldadmgaaDoorTie.lean); close each card by the builder's one call (the guide's Derived/Test/ToyasCard.lean, 'card_holds'). Laid BY PROGRAM, IN A SANDBOX (cutbox-door.mjs). By AI agents, Wed Nov 11 2026. No macro, syntax, notation, axiom, sorry.
-/
import Derived.Test.YtabepbaldadmgaaDoorRows
import GoSem.ClaimSeven
namespace Go.Proofs.YtabepbaldadmgaaDoor
namespace Rows

/-- THE TIED CARD OF 'pllaw9.SimTells'. -/
def simTellsCard : Claim7 := { stood := { row := simTellsRow, standIns := [], harness := (true, "355112dc8c0f2e45b7116cfd725618c02349a59b81a91ff553e2d47db13dbcc5"), looks := false }, kinds := [], alts := [], laidByText := true, laidKinds := [.data, .data], laidTests := true, laidLooks := .later }
def SimTellsCardSaid : Prop := Claim7.holds Tryd.pinned (.plain (OpenSpec.ofChange simTellsSpec)) simTellsCard

/-- THE TIED CARD OF 'pllaw9.SimParts'. -/
def simPartsCard : Claim7 := { stood := { row := simPartsRow, standIns := [], harness := (true, "355112dc8c0f2e45b7116cfd725618c02349a59b81a91ff553e2d47db13dbcc5"), looks := false }, kinds := [], alts := [], laidByText := true, laidKinds := [.data, .data], laidTests := true, laidLooks := .later }
def SimPartsCardSaid : Prop := Claim7.holds Tryd.pinned (.plain (OpenSpec.ofChange simPartsSpec)) simPartsCard

/-- THE TIED CARD OF 'pllaw9.SimStays'. -/
def simStaysCard : Claim7 := { stood := { row := simStaysRow, standIns := [], harness := (true, "355112dc8c0f2e45b7116cfd725618c02349a59b81a91ff553e2d47db13dbcc5"), looks := false }, kinds := [], alts := [], laidByText := true, laidKinds := [.data, .data], laidTests := true, laidLooks := .later }
def SimStaysCardSaid : Prop := Claim7.holds Tryd.pinned (.plain (OpenSpec.ofChange simStaysSpec)) simStaysCard

/-- THE SECOND FORM's CARD OF 'pllaw9.SimTells'. -/
def simTellsUptoCard : Claim7 := { stood := { row := simTellsUptoRow, standIns := [], harness := (true, "355112dc8c0f2e45b7116cfd725618c02349a59b81a91ff553e2d47db13dbcc5"), looks := false }, kinds := [], alts := [], laidByText := true, laidKinds := [.data, .data], laidTests := true, laidLooks := .later }
def SimTellsUptoCardSaid : Prop := Claim7.holds Tryd.pinned (.plain (OpenSpec.upto simTellsSpec)) simTellsUptoCard

/-- THE SECOND FORM's CARD OF 'pllaw9.SimParts'. -/
def simPartsUptoCard : Claim7 := { stood := { row := simPartsUptoRow, standIns := [], harness := (true, "355112dc8c0f2e45b7116cfd725618c02349a59b81a91ff553e2d47db13dbcc5"), looks := false }, kinds := [], alts := [], laidByText := true, laidKinds := [.data, .data], laidTests := true, laidLooks := .later }
def SimPartsUptoCardSaid : Prop := Claim7.holds Tryd.pinned (.plain (OpenSpec.upto simPartsSpec)) simPartsUptoCard

/-- THE SECOND FORM's CARD OF 'pllaw9.SimStays'. -/
def simStaysUptoCard : Claim7 := { stood := { row := simStaysUptoRow, standIns := [], harness := (true, "355112dc8c0f2e45b7116cfd725618c02349a59b81a91ff553e2d47db13dbcc5"), looks := false }, kinds := [], alts := [], laidByText := true, laidKinds := [.data, .data], laidTests := true, laidLooks := .later }
def SimStaysUptoCardSaid : Prop := Claim7.holds Tryd.pinned (.plain (OpenSpec.upto simStaysSpec)) simStaysUptoCard
end Rows
end Go.Proofs.YtabepbaldadmgaaDoor
