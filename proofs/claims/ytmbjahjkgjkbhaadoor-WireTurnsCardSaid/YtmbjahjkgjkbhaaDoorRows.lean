/-
  NARROWER THAN 'FOR EVERY INPUT', by the rows' own cells (each row's printed sentence says how): WireTells: laid · WireTurns: laid · WireByte: laid.
  DERIVED. THE GIVEN ROWS OF THIS SEAT. 3 by the template 'for every input the law returns true; each argument reads behind the call as it read before'; 0 by the template 'total and deterministic' (their statements: YtmbjahjkgjkbhaaDoorTotals.lean).
  GIVEN WITH THE SEED: the statements are not yours to turn. If you find one false, say at which input.
  Laid BY PROGRAM, IN A SANDBOX (cutbox-rows.mjs): the forced cells as the released guide's own fill.sh prints them over the translation 994ccff66c75cd9e… (all of the seat's roots in one cut). By AI agents, Wed Nov 11 2026. No macro, syntax, notation, axiom, sorry.
-/
import Derived.Test.YtmbjahjkgjkbhaaDoorChecked
import GoSem.Claim
import GoSem.ClaimJoined
import GoSem.ClaimMapViews
import Derived.JoinedTies
import Derived.KernelRfl
namespace Go.Proofs.YtmbjahjkgjkbhaaDoor
/- THE CELL 'sum', in the pinned program and in every row, IS THE sha256 OF THE DUMP (.gsa) THAT YtmbjahjkgjkbhaaDoorProg.lean LOADS. Nothing in Lean hashes anything: it is a label: what it is worth is what the hold of that sum in a sandbox is worth. -/
noncomputable def Tryd.pinned : Pinned := { name := "ytmbjahjkgjkbhaadoor", sum := "994ccff66c75cd9e41d8dcaa998880fdb93e65156c6d7521ae1ab4fbc485d693", checked := Tryd.checked }
namespace Rows
def none {H : Type} : Left H := { results := [], args := [] }

/- WHAT THE LISTED PACKAGE-LEVEL VARIABLES READ AS WHEN THE CALL BEGINS. Each datum BY PROGRAM (the guide's laid-datum.mjs) off the statement by which the dump's own 'gosem.cut.vars' lays the variable. In a bare row this is a premise. The card (YtmbjahjkgjkbhaaDoorCards.lean) ties it to the program's text. -/
def laid_platelayer_wire_widths {H : Type} : DataW H := .agg [.lit (.int .i64 1), .lit (.int .i64 1), .lit (.int .i64 1), .lit (.int .i64 2), .lit (.int .i64 1), .lit (.int .i64 2), .lit (.int .i64 4)]

/-- 'pllaw10.WireTells': WHATEVER THE INPUT: true; the input reads as it did. -/
def wireTellsSpec : ChangeSpec := { name := "wireTells", fn := fun _ => fun
  | [d1, d2] => { results := [.lit (.bool true)], args := [d1, d2] }
  | _ => none }
def wireTellsRow : OpenClaim := { program := "ytmbjahjkgjkbhaadoor", sum := "994ccff66c75cd9e41d8dcaa998880fdb93e65156c6d7521ae1ab4fbc485d693", func := "platelayer/pllaw10.WireTells", spec := "wireTells", named := ["platelayer/wire.widths"], apart := false, laid := [("platelayer/wire.widths", laid_platelayer_wire_widths)] }
def WireTellsSaid : Prop := wireTellsRow.holds Tryd.pinned (OpenSpec.ofChange wireTellsSpec)

/-- ITS FALSE NEIGHBOUR: 'it returns false'. Refute it at one input. -/
def wireTellsWrong : ChangeSpec := { name := "wireTells", fn := fun _ => fun
  | [d1, d2] => { results := [.lit (.bool false)], args := [d1, d2] }
  | _ => none }
def WireTellsWrongFalsely : Prop := wireTellsRow.holds Tryd.pinned (OpenSpec.ofChange wireTellsWrong)

/-- 'pllaw10.WireTurns': WHATEVER THE INPUT: true; the input reads as it did. -/
def wireTurnsSpec : ChangeSpec := { name := "wireTurns", fn := fun _ => fun
  | [d1, d2] => { results := [.lit (.bool true)], args := [d1, d2] }
  | _ => none }
def wireTurnsRow : OpenClaim := { program := "ytmbjahjkgjkbhaadoor", sum := "994ccff66c75cd9e41d8dcaa998880fdb93e65156c6d7521ae1ab4fbc485d693", func := "platelayer/pllaw10.WireTurns", spec := "wireTurns", named := ["platelayer/wire.widths"], apart := false, laid := [("platelayer/wire.widths", laid_platelayer_wire_widths)] }
def WireTurnsSaid : Prop := wireTurnsRow.holds Tryd.pinned (OpenSpec.ofChange wireTurnsSpec)

/-- ITS FALSE NEIGHBOUR: 'it returns false'. Refute it at one input. -/
def wireTurnsWrong : ChangeSpec := { name := "wireTurns", fn := fun _ => fun
  | [d1, d2] => { results := [.lit (.bool false)], args := [d1, d2] }
  | _ => none }
def WireTurnsWrongFalsely : Prop := wireTurnsRow.holds Tryd.pinned (OpenSpec.ofChange wireTurnsWrong)

/-- 'pllaw10.WireByte': WHATEVER THE INPUT: true; the input reads as it did. -/
def wireByteSpec : ChangeSpec := { name := "wireByte", fn := fun _ => fun
  | [d1, d2, d3] => { results := [.lit (.bool true)], args := [d1, d2, d3] }
  | _ => none }
def wireByteRow : OpenClaim := { program := "ytmbjahjkgjkbhaadoor", sum := "994ccff66c75cd9e41d8dcaa998880fdb93e65156c6d7521ae1ab4fbc485d693", func := "platelayer/pllaw10.WireByte", spec := "wireByte", named := ["platelayer/wire.widths"], apart := false, laid := [("platelayer/wire.widths", laid_platelayer_wire_widths)] }
def WireByteSaid : Prop := wireByteRow.holds Tryd.pinned (OpenSpec.ofChange wireByteSpec)

/-- ITS FALSE NEIGHBOUR: 'it returns false'. Refute it at one input. -/
def wireByteWrong : ChangeSpec := { name := "wireByte", fn := fun _ => fun
  | [d1, d2, d3] => { results := [.lit (.bool false)], args := [d1, d2, d3] }
  | _ => none }
def WireByteWrongFalsely : Prop := wireByteRow.holds Tryd.pinned (OpenSpec.ofChange wireByteWrong)

/- THE SECOND FORM. 'bulk': how many values and letters a reading holds, each counted each time it is reached (what is shared counts as often as it is met; a slice's spare places count too). A statement '..UptoSaid' is the law's where the arguments, and the package variables that the reading takes, are together of bulk at most 1048576: NARROWER than '..Said'. Prove '..Said' where nothing that the law and all that it calls make is longer than what came in: it says more and counts as full. Else prove '..UptoSaid'. A law counts once. -/
mutual
def uptoBulk {H : Type} : DataW H → Nat
  | .lit (.string bytes) => bytes.length + 1
  | .lit _ => 1
  | .nil => 1
  | .ptr d => uptoBulk d + 1
  | .slice elems spare => uptoBulkAll elems + uptoBulkAll spare + 1
  | .agg parts => uptoBulkAll parts + 1
  | .iface _ d => uptoBulk d + 1
  | .map entries => uptoBulkEntries entries + 1
  | .held _ => 1
def uptoBulkAll {H : Type} : List (DataW H) → Nat
  | [] => 0
  | d :: r => uptoBulk d + uptoBulkAll r
def uptoBulkEntries {H : Type} : List (Lit × DataW H) → Nat
  | [] => 0
  | x :: r => uptoBulkEntry x + uptoBulkEntries r
def uptoBulkEntry {H : Type} : Lit × DataW H → Nat
  | (.string bytes, d) => bytes.length + uptoBulk d + 1
  | (_, d) => uptoBulk d + 1
 end
def uptoSmall : (H : Type) → List (DataW H) → Bool := fun _ ds => decide (uptoBulkAll ds ≤ 1048576)
def OpenSpec.upto (s : _root_.Go.ChangeSpec) : _root_.Go.OpenSpec := { _root_.Go.OpenSpec.ofChange s with cond := some uptoSmall }

/-- 'pllaw10.WireTells', WHERE WHAT IT READS IS OF BULK AT MOST 1048576: true; the input reads as it did. -/
def wireTellsUptoRow : OpenClaim := { program := "ytmbjahjkgjkbhaadoor", sum := "994ccff66c75cd9e41d8dcaa998880fdb93e65156c6d7521ae1ab4fbc485d693", func := "platelayer/pllaw10.WireTells", spec := "wireTells", named := ["platelayer/wire.widths"], apart := false, laid := [("platelayer/wire.widths", laid_platelayer_wire_widths)], narrowed := true }
def WireTellsUptoSaid : Prop := wireTellsUptoRow.holds Tryd.pinned (OpenSpec.upto wireTellsSpec)

/-- 'pllaw10.WireTurns', WHERE WHAT IT READS IS OF BULK AT MOST 1048576: true; the input reads as it did. -/
def wireTurnsUptoRow : OpenClaim := { program := "ytmbjahjkgjkbhaadoor", sum := "994ccff66c75cd9e41d8dcaa998880fdb93e65156c6d7521ae1ab4fbc485d693", func := "platelayer/pllaw10.WireTurns", spec := "wireTurns", named := ["platelayer/wire.widths"], apart := false, laid := [("platelayer/wire.widths", laid_platelayer_wire_widths)], narrowed := true }
def WireTurnsUptoSaid : Prop := wireTurnsUptoRow.holds Tryd.pinned (OpenSpec.upto wireTurnsSpec)

/-- 'pllaw10.WireByte', WHERE WHAT IT READS IS OF BULK AT MOST 1048576: true; the input reads as it did. -/
def wireByteUptoRow : OpenClaim := { program := "ytmbjahjkgjkbhaadoor", sum := "994ccff66c75cd9e41d8dcaa998880fdb93e65156c6d7521ae1ab4fbc485d693", func := "platelayer/pllaw10.WireByte", spec := "wireByte", named := ["platelayer/wire.widths"], apart := false, laid := [("platelayer/wire.widths", laid_platelayer_wire_widths)], narrowed := true }
def WireByteUptoSaid : Prop := wireByteUptoRow.holds Tryd.pinned (OpenSpec.upto wireByteSpec)

end Rows
end Go.Proofs.YtmbjahjkgjkbhaaDoor
