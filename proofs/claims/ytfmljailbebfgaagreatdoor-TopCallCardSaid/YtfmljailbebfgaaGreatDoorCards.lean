/-
  DERIVED. GIVEN WITH THE SEED: THE CARDS: each row of YtfmljailbebfgaaGreatDoorRows.lean that lists a variable, with what it lists TIED to the program's text (the seventh form; the later family's looks); each row that meets fmt, with fmt's text TOLD by the authors' own Lean function (tested against real Go, not proved from fmt's source: count such statements apart). THE CARD IS WHAT COUNTS. Prove the row's statement (the work); the ties are given (YtfmljailbebfgaaGreatDoorTie.lean); close each card by the builder's one call (the guide's Derived/Test/ToyasCard.lean, 'card_holds'). Laid BY PROGRAM, IN A SANDBOX (cutbox-door.mjs). By AI agents, Wed Nov 11 2026. No macro, syntax, notation, axiom, sorry.
-/
import Derived.Test.YtfmljailbebfgaaGreatDoorRows
import GoSem.ClaimSeven
namespace Go.Proofs.YtfmljailbebfgaaGreatDoor
namespace Rows

/-- THE TIED CARD OF 'pltop.TopSum'. -/
def topSumCard : Claim7 := { stood := { row := topSumRow, standIns := [], harness := (true, "334f99548152f6e6c2f26c952aacb7a0f4fcefb97abb1d66cef7218ea335fe07"), looks := true }, kinds := [], alts := [], laidByText := true, laidKinds := [.data, .data, .data, .data, .data, .data, .sentinel, .sentinel, .data, .data, .pinned], laidTests := true, laidLooks := .later }
def TopSumCardSaid : Prop := Claim7.holds Tryz.pinned (.plain (OpenSpec.ofChange topSumSpec)) topSumCard

/-- THE TIED CARD OF 'pltop.TopCall'. -/
def topCallCard : Claim7 := { stood := { row := topCallRow, standIns := [], harness := (true, "334f99548152f6e6c2f26c952aacb7a0f4fcefb97abb1d66cef7218ea335fe07"), looks := true }, kinds := [], alts := [], laidByText := true, laidKinds := [.data, .data, .data, .data, .data, .data, .sentinel, .sentinel, .data, .data, .pinned], laidTests := true, laidLooks := .later }
def TopCallCardSaid : Prop := Claim7.holds Tryz.pinned (.plain (OpenSpec.ofChange topCallSpec)) topCallCard

/-- THE TIED CARD OF 'pltop.TopLeap'. -/
def topLeapCard : Claim7 := { stood := { row := topLeapRow, standIns := [], harness := (true, "334f99548152f6e6c2f26c952aacb7a0f4fcefb97abb1d66cef7218ea335fe07"), looks := true }, kinds := [], alts := [], laidByText := true, laidKinds := [.data, .data, .data, .data, .data, .data, .sentinel, .sentinel, .data, .data, .pinned], laidTests := true, laidLooks := .later }
def TopLeapCardSaid : Prop := Claim7.holds Tryz.pinned (.plain (OpenSpec.ofChange topLeapSpec)) topLeapCard

/-- THE SECOND FORM's CARD OF 'pltop.TopSum'. -/
def topSumUptoCard : Claim7 := { stood := { row := topSumUptoRow, standIns := [], harness := (true, "334f99548152f6e6c2f26c952aacb7a0f4fcefb97abb1d66cef7218ea335fe07"), looks := true }, kinds := [], alts := [], laidByText := true, laidKinds := [.data, .data, .data, .data, .data, .data, .sentinel, .sentinel, .data, .data, .pinned], laidTests := true, laidLooks := .later }
def TopSumUptoCardSaid : Prop := Claim7.holds Tryz.pinned (.plain (OpenSpec.upto topSumSpec)) topSumUptoCard

/-- THE SECOND FORM's CARD OF 'pltop.TopCall'. -/
def topCallUptoCard : Claim7 := { stood := { row := topCallUptoRow, standIns := [], harness := (true, "334f99548152f6e6c2f26c952aacb7a0f4fcefb97abb1d66cef7218ea335fe07"), looks := true }, kinds := [], alts := [], laidByText := true, laidKinds := [.data, .data, .data, .data, .data, .data, .sentinel, .sentinel, .data, .data, .pinned], laidTests := true, laidLooks := .later }
def TopCallUptoCardSaid : Prop := Claim7.holds Tryz.pinned (.plain (OpenSpec.upto topCallSpec)) topCallUptoCard

/-- THE SECOND FORM's CARD OF 'pltop.TopLeap'. -/
def topLeapUptoCard : Claim7 := { stood := { row := topLeapUptoRow, standIns := [], harness := (true, "334f99548152f6e6c2f26c952aacb7a0f4fcefb97abb1d66cef7218ea335fe07"), looks := true }, kinds := [], alts := [], laidByText := true, laidKinds := [.data, .data, .data, .data, .data, .data, .sentinel, .sentinel, .data, .data, .pinned], laidTests := true, laidLooks := .later }
def TopLeapUptoCardSaid : Prop := Claim7.holds Tryz.pinned (.plain (OpenSpec.upto topLeapSpec)) topLeapUptoCard
end Rows
end Go.Proofs.YtfmljailbebfgaaGreatDoor
