/-
  DERIVED. GIVEN WITH THE SEED: THE CARDS: each row of YtgjmbjahgcndnaaGreatDoorRows.lean that lists a variable, with what it lists TIED to the program's text (the seventh form; the later family's looks); each row that meets fmt, with fmt's text TOLD by the authors' own Lean function (tested against real Go, not proved from fmt's source: count such statements apart). THE CARD IS WHAT COUNTS. Prove the row's statement (the work); the ties are given (YtgjmbjahgcndnaaGreatDoorTie.lean); close each card by the builder's one call (the guide's Derived/Test/ToyasCard.lean, 'card_holds'). Laid BY PROGRAM, IN A SANDBOX (cutbox-door.mjs). By AI agents, Wed Nov 11 2026. No macro, syntax, notation, axiom, sorry.
-/
import Derived.Test.YtgjmbjahgcndnaaGreatDoorRows
import GoSem.ClaimSeven
namespace Go.Proofs.YtgjmbjahgcndnaaGreatDoor
namespace Rows

/-- THE TIED CARD OF 'pltop.TopMacro'. -/
def topMacroCard : Claim7 := { stood := { row := topMacroRow, standIns := [], harness := (true, "5234c40b2534bee18ff1cc3c2ef0d0f526d543ef9d1058d7856c7c9b5e3fc20c"), looks := true }, kinds := [], alts := [], laidByText := true, laidKinds := [.data, .data, .data, .data, .data, .data, .sentinel, .sentinel, .data, .data, .pinned], laidTests := true, laidLooks := .later }
def TopMacroCardSaid : Prop := Claim7.holds Tryz.pinned (.plain (OpenSpec.ofChange topMacroSpec)) topMacroCard

/-- THE SECOND FORM's CARD OF 'pltop.TopMacro'. -/
def topMacroUptoCard : Claim7 := { stood := { row := topMacroUptoRow, standIns := [], harness := (true, "5234c40b2534bee18ff1cc3c2ef0d0f526d543ef9d1058d7856c7c9b5e3fc20c"), looks := true }, kinds := [], alts := [], laidByText := true, laidKinds := [.data, .data, .data, .data, .data, .data, .sentinel, .sentinel, .data, .data, .pinned], laidTests := true, laidLooks := .later }
def TopMacroUptoCardSaid : Prop := Claim7.holds Tryz.pinned (.plain (OpenSpec.upto topMacroSpec)) topMacroUptoCard
end Rows
end Go.Proofs.YtgjmbjahgcndnaaGreatDoor
