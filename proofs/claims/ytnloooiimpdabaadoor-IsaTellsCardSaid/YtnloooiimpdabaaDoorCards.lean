/-
  DERIVED. GIVEN WITH THE SEED: THE CARDS: each row of YtnloooiimpdabaaDoorRows.lean that lists a variable, with what it lists TIED to the program's text (the seventh form; the later family's looks); each row that meets fmt, with fmt's text TOLD by the authors' own Lean function (tested against real Go, not proved from fmt's source: count such statements apart). THE CARD IS WHAT COUNTS. Prove the row's statement (the work); the ties are given (YtnloooiimpdabaaDoorTie.lean); close each card by the builder's one call (the guide's Derived/Test/ToyasCard.lean, 'card_holds'). Laid BY PROGRAM, IN A SANDBOX (cutbox-door.mjs). By AI agents, Wed Nov 11 2026. No macro, syntax, notation, axiom, sorry.
-/
import Derived.Test.YtnloooiimpdabaaDoorRows
import GoSem.ClaimSeven
namespace Go.Proofs.YtnloooiimpdabaaDoor
namespace Rows

/-- THE TIED CARD OF 'pllaw1.IsaTells'. -/
def isaTellsCard : Claim7 := { stood := { row := isaTellsRow, standIns := [], harness := (true, "9e9df4098c2b7365ef2feb1665a9830ef5ca0111876f31e1daa88aed6f81ad94"), looks := false }, kinds := [], alts := [], laidByText := true, laidKinds := [.data, .data], laidTests := true, laidLooks := .later }
def IsaTellsCardSaid : Prop := Claim7.holds Tryd.pinned (.plain (OpenSpec.ofChange isaTellsSpec)) isaTellsCard

/-- THE TIED CARD OF 'pllaw1.IsaTurns'. -/
def isaTurnsCard : Claim7 := { stood := { row := isaTurnsRow, standIns := [], harness := (true, "9e9df4098c2b7365ef2feb1665a9830ef5ca0111876f31e1daa88aed6f81ad94"), looks := false }, kinds := [], alts := [], laidByText := true, laidKinds := [.data, .data], laidTests := true, laidLooks := .later }
def IsaTurnsCardSaid : Prop := Claim7.holds Tryd.pinned (.plain (OpenSpec.ofChange isaTurnsSpec)) isaTurnsCard

/-- THE TIED CARD OF 'pllaw1.IsaBytes'. -/
def isaBytesCard : Claim7 := { stood := { row := isaBytesRow, standIns := [], harness := (true, "9e9df4098c2b7365ef2feb1665a9830ef5ca0111876f31e1daa88aed6f81ad94"), looks := false }, kinds := [], alts := [], laidByText := true, laidKinds := [.data, .data], laidTests := true, laidLooks := .later }
def IsaBytesCardSaid : Prop := Claim7.holds Tryd.pinned (.plain (OpenSpec.ofChange isaBytesSpec)) isaBytesCard

/-- THE SECOND FORM's CARD OF 'pllaw1.IsaTells'. -/
def isaTellsUptoCard : Claim7 := { stood := { row := isaTellsUptoRow, standIns := [], harness := (true, "9e9df4098c2b7365ef2feb1665a9830ef5ca0111876f31e1daa88aed6f81ad94"), looks := false }, kinds := [], alts := [], laidByText := true, laidKinds := [.data, .data], laidTests := true, laidLooks := .later }
def IsaTellsUptoCardSaid : Prop := Claim7.holds Tryd.pinned (.plain (OpenSpec.upto isaTellsSpec)) isaTellsUptoCard

/-- THE SECOND FORM's CARD OF 'pllaw1.IsaTurns'. -/
def isaTurnsUptoCard : Claim7 := { stood := { row := isaTurnsUptoRow, standIns := [], harness := (true, "9e9df4098c2b7365ef2feb1665a9830ef5ca0111876f31e1daa88aed6f81ad94"), looks := false }, kinds := [], alts := [], laidByText := true, laidKinds := [.data, .data], laidTests := true, laidLooks := .later }
def IsaTurnsUptoCardSaid : Prop := Claim7.holds Tryd.pinned (.plain (OpenSpec.upto isaTurnsSpec)) isaTurnsUptoCard

/-- THE SECOND FORM's CARD OF 'pllaw1.IsaBytes'. -/
def isaBytesUptoCard : Claim7 := { stood := { row := isaBytesUptoRow, standIns := [], harness := (true, "9e9df4098c2b7365ef2feb1665a9830ef5ca0111876f31e1daa88aed6f81ad94"), looks := false }, kinds := [], alts := [], laidByText := true, laidKinds := [.data, .data], laidTests := true, laidLooks := .later }
def IsaBytesUptoCardSaid : Prop := Claim7.holds Tryd.pinned (.plain (OpenSpec.upto isaBytesSpec)) isaBytesUptoCard
end Rows
end Go.Proofs.YtnloooiimpdabaaDoor
