/-
  DERIVED. GIVEN WITH THE SEED: THE CARDS: each row of YtagkmgdjkailkaaGreatDoorRows.lean that lists a variable, with what it lists TIED to the program's text (the seventh form; the later family's looks); each row that meets fmt, with fmt's text TOLD by the authors' own Lean function (tested against real Go, not proved from fmt's source: count such statements apart). THE CARD IS WHAT COUNTS. Prove the row's statement (the work); the ties are given (YtagkmgdjkailkaaGreatDoorTie.lean); close each card by the builder's one call (the guide's Derived/Test/ToyasCard.lean, 'card_holds'). Laid BY PROGRAM, IN A SANDBOX (cutbox-door.mjs). By AI agents, Wed Nov 11 2026. No macro, syntax, notation, axiom, sorry.
-/
import Derived.Test.YtagkmgdjkailkaaGreatDoorRows
import GoSem.ClaimSeven
namespace Go.Proofs.YtagkmgdjkailkaaGreatDoor
namespace Rows

/-- THE TIED CARD OF 'pllaw5.AsmFar'. -/
def asmFarCard : Claim7 := { stood := { row := asmFarRow, standIns := [], harness := (true, "e7c420e02585e9682b4f3779af2188b28c9b112047ebd90e20e9ce87dee0be6c"), looks := true }, kinds := [], alts := [], laidByText := true, laidKinds := [.data, .data, .data, .data, .data, .data, .sentinel, .sentinel, .data, .data, .pinned], laidTests := true, laidLooks := .later }
def AsmFarCardSaid : Prop := Claim7.holds Tryz.pinned (.plain (OpenSpec.ofChange asmFarSpec)) asmFarCard

/-- THE TIED CARD OF 'pllaw5.AsmData'. -/
def asmDataCard : Claim7 := { stood := { row := asmDataRow, standIns := [], harness := (true, "e7c420e02585e9682b4f3779af2188b28c9b112047ebd90e20e9ce87dee0be6c"), looks := true }, kinds := [], alts := [], laidByText := true, laidKinds := [.data, .data, .data, .data, .data, .data, .sentinel, .sentinel, .data, .data, .pinned], laidTests := true, laidLooks := .later }
def AsmDataCardSaid : Prop := Claim7.holds Tryz.pinned (.plain (OpenSpec.ofChange asmDataSpec)) asmDataCard

/-- THE SECOND FORM's CARD OF 'pllaw5.AsmFar'. -/
def asmFarUptoCard : Claim7 := { stood := { row := asmFarUptoRow, standIns := [], harness := (true, "e7c420e02585e9682b4f3779af2188b28c9b112047ebd90e20e9ce87dee0be6c"), looks := true }, kinds := [], alts := [], laidByText := true, laidKinds := [.data, .data, .data, .data, .data, .data, .sentinel, .sentinel, .data, .data, .pinned], laidTests := true, laidLooks := .later }
def AsmFarUptoCardSaid : Prop := Claim7.holds Tryz.pinned (.plain (OpenSpec.upto asmFarSpec)) asmFarUptoCard

/-- THE SECOND FORM's CARD OF 'pllaw5.AsmData'. -/
def asmDataUptoCard : Claim7 := { stood := { row := asmDataUptoRow, standIns := [], harness := (true, "e7c420e02585e9682b4f3779af2188b28c9b112047ebd90e20e9ce87dee0be6c"), looks := true }, kinds := [], alts := [], laidByText := true, laidKinds := [.data, .data, .data, .data, .data, .data, .sentinel, .sentinel, .data, .data, .pinned], laidTests := true, laidLooks := .later }
def AsmDataUptoCardSaid : Prop := Claim7.holds Tryz.pinned (.plain (OpenSpec.upto asmDataSpec)) asmDataUptoCard
end Rows
end Go.Proofs.YtagkmgdjkailkaaGreatDoor
