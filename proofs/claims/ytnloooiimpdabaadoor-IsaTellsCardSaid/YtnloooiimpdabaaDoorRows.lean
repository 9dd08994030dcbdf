/-
  NARROWER THAN 'FOR EVERY INPUT', by the rows' own cells (each row's printed sentence says how): IsaTells: laid · IsaTurns: laid · IsaBytes: laid.
  DERIVED. THE GIVEN ROWS OF THIS SEAT. 3 by the template 'for every input the law returns true; each argument reads behind the call as it read before'; 0 by the template 'total and deterministic' (their statements: YtnloooiimpdabaaDoorTotals.lean).
  GIVEN WITH THE SEED: the statements are not yours to turn. If you find one false, say at which input.
  Laid BY PROGRAM, IN A SANDBOX (cutbox-rows.mjs): the forced cells as the released guide's own fill.sh prints them over the translation 8acab5ae6c9356d6… (all of the seat's roots in one cut). By AI agents, Wed Nov 11 2026. No macro, syntax, notation, axiom, sorry.
-/
import Derived.Test.YtnloooiimpdabaaDoorChecked
import GoSem.Claim
import GoSem.ClaimJoined
import GoSem.ClaimMapViews
import Derived.JoinedTies
import Derived.KernelRfl
namespace Go.Proofs.YtnloooiimpdabaaDoor
/- THE CELL 'sum', in the pinned program and in every row, IS THE sha256 OF THE DUMP (.gsa) THAT YtnloooiimpdabaaDoorProg.lean LOADS. Nothing in Lean hashes anything: it is a label: what it is worth is what the hold of that sum in a sandbox is worth. -/
noncomputable def Tryd.pinned : Pinned := { name := "ytnloooiimpdabaadoor", sum := "8acab5ae6c9356d62adce19e78d4d2104defdb706ad15839e54813ca21e5d580", checked := Tryd.checked }
namespace Rows
def none {H : Type} : Left H := { results := [], args := [] }

/- WHAT THE LISTED PACKAGE-LEVEL VARIABLES READ AS WHEN THE CALL BEGINS. Each datum BY PROGRAM (the guide's laid-datum.mjs) off the statement by which the dump's own 'gosem.cut.vars' lays the variable. In a bare row this is a premise. The card (YtnloooiimpdabaaDoorCards.lean) ties it to the program's text. -/
def laid_platelayer_isa_operations {H : Type} : DataW H := .agg [.agg [.lit (.string []), .lit (.int .i64 0), .lit (.int .i64 0)], .agg [.lit (.string [110, 111, 112]), .lit (.int .i64 0), .lit (.int .i64 9)], .agg [.lit (.string [114, 116, 115]), .lit (.int .i64 0), .lit (.int .i64 11)], .agg [.lit (.string [109, 111, 118]), .lit (.int .i64 1), .lit (.int .i64 57344)], .agg [.lit (.string [97, 100, 100]), .lit (.int .i64 1), .lit (.int .i64 28672)], .agg [.lit (.string [109, 111, 118]), .lit (.int .i64 2), .lit (.int .i64 24579)], .agg [.lit (.string [97, 100, 100]), .lit (.int .i64 2), .lit (.int .i64 12300)], .agg [.lit (.string [115, 117, 98]), .lit (.int .i64 2), .lit (.int .i64 12296)], .agg [.lit (.string [97, 110, 100]), .lit (.int .i64 2), .lit (.int .i64 8201)], .agg [.lit (.string [111, 114]), .lit (.int .i64 2), .lit (.int .i64 8203)], .agg [.lit (.string [120, 111, 114]), .lit (.int .i64 2), .lit (.int .i64 8202)], .agg [.lit (.string [116, 115, 116]), .lit (.int .i64 2), .lit (.int .i64 8200)], .agg [.lit (.string [99, 109, 112, 47, 101, 113]), .lit (.int .i64 2), .lit (.int .i64 12288)], .agg [.lit (.string [99, 109, 112, 47, 103, 116]), .lit (.int .i64 2), .lit (.int .i64 12295)], .agg [.lit (.string [115, 104, 108, 108]), .lit (.int .i64 3), .lit (.int .i64 16384)], .agg [.lit (.string [115, 104, 108, 114]), .lit (.int .i64 3), .lit (.int .i64 16385)], .agg [.lit (.string [100, 116]), .lit (.int .i64 3), .lit (.int .i64 16400)], .agg [.lit (.string [98, 116]), .lit (.int .i64 4), .lit (.int .i64 35072)], .agg [.lit (.string [98, 102]), .lit (.int .i64 4), .lit (.int .i64 35584)], .agg [.lit (.string [98, 114, 97]), .lit (.int .i64 5), .lit (.int .i64 40960)], .agg [.lit (.string [98, 115, 114]), .lit (.int .i64 5), .lit (.int .i64 45056)], .agg [.lit (.string [106, 109, 112]), .lit (.int .i64 6), .lit (.int .i64 16427)], .agg [.lit (.string [106, 115, 114]), .lit (.int .i64 6), .lit (.int .i64 16395)], .agg [.lit (.string [109, 111, 118, 46, 119]), .lit (.int .i64 7), .lit (.int .i64 36864)], .agg [.lit (.string [109, 111, 118, 46, 108]), .lit (.int .i64 8), .lit (.int .i64 53248)], .agg [.lit (.string [109, 111, 118, 46, 108]), .lit (.int .i64 9), .lit (.int .i64 8194)], .agg [.lit (.string [109, 111, 118, 46, 108]), .lit (.int .i64 10), .lit (.int .i64 24578)], .agg [.lit (.string [116, 114, 97, 112, 97]), .lit (.int .i64 11), .lit (.int .i64 49920)]]
def laid_platelayer_isa_layouts {H : Type} : DataW H := .agg [.agg [.lit (.int .i64 0), .lit (.int .i64 0), .lit (.int .i64 0), .lit (.int .i64 0)], .agg [.lit (.int .i64 15), .lit (.int .i64 0), .lit (.int .i64 (-128)), .lit (.int .i64 127)], .agg [.lit (.int .i64 15), .lit (.int .i64 15), .lit (.int .i64 0), .lit (.int .i64 0)], .agg [.lit (.int .i64 15), .lit (.int .i64 0), .lit (.int .i64 0), .lit (.int .i64 0)], .agg [.lit (.int .i64 0), .lit (.int .i64 0), .lit (.int .i64 (-128)), .lit (.int .i64 127)], .agg [.lit (.int .i64 0), .lit (.int .i64 0), .lit (.int .i64 (-2048)), .lit (.int .i64 2047)], .agg [.lit (.int .i64 15), .lit (.int .i64 0), .lit (.int .i64 0), .lit (.int .i64 0)], .agg [.lit (.int .i64 15), .lit (.int .i64 0), .lit (.int .i64 0), .lit (.int .i64 255)], .agg [.lit (.int .i64 15), .lit (.int .i64 0), .lit (.int .i64 0), .lit (.int .i64 255)], .agg [.lit (.int .i64 15), .lit (.int .i64 15), .lit (.int .i64 0), .lit (.int .i64 0)], .agg [.lit (.int .i64 15), .lit (.int .i64 15), .lit (.int .i64 0), .lit (.int .i64 0)], .agg [.lit (.int .i64 0), .lit (.int .i64 0), .lit (.int .i64 0), .lit (.int .i64 255)]]

/-- 'pllaw1.IsaTells': WHATEVER THE INPUT: true; the input reads as it did. -/
def isaTellsSpec : ChangeSpec := { name := "isaTells", fn := fun _ => fun
  | [d1, d2, d3, d4, d5, d6, d7] => { results := [.lit (.bool true)], args := [d1, d2, d3, d4, d5, d6, d7] }
  | _ => none }
def isaTellsRow : OpenClaim := { program := "ytnloooiimpdabaadoor", sum := "8acab5ae6c9356d62adce19e78d4d2104defdb706ad15839e54813ca21e5d580", func := "platelayer/pllaw1.IsaTells", spec := "isaTells", named := ["platelayer/isa.operations", "platelayer/isa.layouts"], apart := false, laid := [("platelayer/isa.operations", laid_platelayer_isa_operations), ("platelayer/isa.layouts", laid_platelayer_isa_layouts)] }
def IsaTellsSaid : Prop := isaTellsRow.holds Tryd.pinned (OpenSpec.ofChange isaTellsSpec)

/-- ITS FALSE NEIGHBOUR: 'it returns false'. Refute it at one input. -/
def isaTellsWrong : ChangeSpec := { name := "isaTells", fn := fun _ => fun
  | [d1, d2, d3, d4, d5, d6, d7] => { results := [.lit (.bool false)], args := [d1, d2, d3, d4, d5, d6, d7] }
  | _ => none }
def IsaTellsWrongFalsely : Prop := isaTellsRow.holds Tryd.pinned (OpenSpec.ofChange isaTellsWrong)

/-- 'pllaw1.IsaTurns': WHATEVER THE INPUT: true; the input reads as it did. -/
def isaTurnsSpec : ChangeSpec := { name := "isaTurns", fn := fun _ => fun
  | [d1, d2] => { results := [.lit (.bool true)], args := [d1, d2] }
  | _ => none }
def isaTurnsRow : OpenClaim := { program := "ytnloooiimpdabaadoor", sum := "8acab5ae6c9356d62adce19e78d4d2104defdb706ad15839e54813ca21e5d580", func := "platelayer/pllaw1.IsaTurns", spec := "isaTurns", named := ["platelayer/isa.operations", "platelayer/isa.layouts"], apart := false, laid := [("platelayer/isa.operations", laid_platelayer_isa_operations), ("platelayer/isa.layouts", laid_platelayer_isa_layouts)] }
def IsaTurnsSaid : Prop := isaTurnsRow.holds Tryd.pinned (OpenSpec.ofChange isaTurnsSpec)

/-- ITS FALSE NEIGHBOUR: 'it returns false'. Refute it at one input. -/
def isaTurnsWrong : ChangeSpec := { name := "isaTurns", fn := fun _ => fun
  | [d1, d2] => { results := [.lit (.bool false)], args := [d1, d2] }
  | _ => none }
def IsaTurnsWrongFalsely : Prop := isaTurnsRow.holds Tryd.pinned (OpenSpec.ofChange isaTurnsWrong)

/-- 'pllaw1.IsaBytes': WHATEVER THE INPUT: true; the input reads as it did. -/
def isaBytesSpec : ChangeSpec := { name := "isaBytes", fn := fun _ => fun
  | [d1, d2, d3, d4, d5] => { results := [.lit (.bool true)], args := [d1, d2, d3, d4, d5] }
  | _ => none }
def isaBytesRow : OpenClaim := { program := "ytnloooiimpdabaadoor", sum := "8acab5ae6c9356d62adce19e78d4d2104defdb706ad15839e54813ca21e5d580", func := "platelayer/pllaw1.IsaBytes", spec := "isaBytes", named := ["platelayer/isa.operations", "platelayer/isa.layouts"], apart := false, laid := [("platelayer/isa.operations", laid_platelayer_isa_operations), ("platelayer/isa.layouts", laid_platelayer_isa_layouts)] }
def IsaBytesSaid : Prop := isaBytesRow.holds Tryd.pinned (OpenSpec.ofChange isaBytesSpec)

/-- ITS FALSE NEIGHBOUR: 'it returns false'. Refute it at one input. -/
def isaBytesWrong : ChangeSpec := { name := "isaBytes", fn := fun _ => fun
  | [d1, d2, d3, d4, d5] => { results := [.lit (.bool false)], args := [d1, d2, d3, d4, d5] }
  | _ => none }
def IsaBytesWrongFalsely : Prop := isaBytesRow.holds Tryd.pinned (OpenSpec.ofChange isaBytesWrong)

/- THE SECOND FORM. 'bulk': how many values and letters a reading holds, each counted each time it is reached (what is shared counts as often as it is met; a slice's spare places count too). A statement '..UptoSaid' is the law's where the arguments, and the package variables that the reading takes, are together of bulk at most 1048576: NARROWER than '..Said'. Prove '..Said' where nothing that the law and all that it calls make is longer than what came in: it says more and counts as full. Else prove '..UptoSaid'. A law counts once. -/
mutual
def uptoBulk {H : Type} : DataW H → Nat
  | .lit (.string bytes) => bytes.length + 1
  | .lit _ => 1
  | .nil => 1
  | .ptr d => uptoBulk d + 1
  | .slice elems spare => uptoBulkAll elems + uptoBulkAll spare + 1
  | .agg parts => uptoBulkAll parts + 1
  | .iface _ d => uptoBulk d + 1
  | .map entries => uptoBulkEntries entries + 1
  | .held _ => 1
def uptoBulkAll {H : Type} : List (DataW H) → Nat
  | [] => 0
  | d :: r => uptoBulk d + uptoBulkAll r
def uptoBulkEntries {H : Type} : List (Lit × DataW H) → Nat
  | [] => 0
  | x :: r => uptoBulkEntry x + uptoBulkEntries r
def uptoBulkEntry {H : Type} : Lit × DataW H → Nat
  | (.string bytes, d) => bytes.length + uptoBulk d + 1
  | (_, d) => uptoBulk d + 1
 end
def uptoSmall : (H : Type) → List (DataW H) → Bool := fun _ ds => decide (uptoBulkAll ds ≤ 1048576)
def OpenSpec.upto (s : _root_.Go.ChangeSpec) : _root_.Go.OpenSpec := { _root_.Go.OpenSpec.ofChange s with cond := some uptoSmall }

/-- 'pllaw1.IsaTells', WHERE WHAT IT READS IS OF BULK AT MOST 1048576: true; the input reads as it did. -/
def isaTellsUptoRow : OpenClaim := { program := "ytnloooiimpdabaadoor", sum := "8acab5ae6c9356d62adce19e78d4d2104defdb706ad15839e54813ca21e5d580", func := "platelayer/pllaw1.IsaTells", spec := "isaTells", named := ["platelayer/isa.operations", "platelayer/isa.layouts"], apart := false, laid := [("platelayer/isa.operations", laid_platelayer_isa_operations), ("platelayer/isa.layouts", laid_platelayer_isa_layouts)], narrowed := true }
def IsaTellsUptoSaid : Prop := isaTellsUptoRow.holds Tryd.pinned (OpenSpec.upto isaTellsSpec)

/-- 'pllaw1.IsaTurns', WHERE WHAT IT READS IS OF BULK AT MOST 1048576: true; the input reads as it did. -/
def isaTurnsUptoRow : OpenClaim := { program := "ytnloooiimpdabaadoor", sum := "8acab5ae6c9356d62adce19e78d4d2104defdb706ad15839e54813ca21e5d580", func := "platelayer/pllaw1.IsaTurns", spec := "isaTurns", named := ["platelayer/isa.operations", "platelayer/isa.layouts"], apart := false, laid := [("platelayer/isa.operations", laid_platelayer_isa_operations), ("platelayer/isa.layouts", laid_platelayer_isa_layouts)], narrowed := true }
def IsaTurnsUptoSaid : Prop := isaTurnsUptoRow.holds Tryd.pinned (OpenSpec.upto isaTurnsSpec)

/-- 'pllaw1.IsaBytes', WHERE WHAT IT READS IS OF BULK AT MOST 1048576: true; the input reads as it did. -/
def isaBytesUptoRow : OpenClaim := { program := "ytnloooiimpdabaadoor", sum := "8acab5ae6c9356d62adce19e78d4d2104defdb706ad15839e54813ca21e5d580", func := "platelayer/pllaw1.IsaBytes", spec := "isaBytes", named := ["platelayer/isa.operations", "platelayer/isa.layouts"], apart := false, laid := [("platelayer/isa.operations", laid_platelayer_isa_operations), ("platelayer/isa.layouts", laid_platelayer_isa_layouts)], narrowed := true }
def IsaBytesUptoSaid : Prop := isaBytesUptoRow.holds Tryd.pinned (OpenSpec.upto isaBytesSpec)

end Rows
end Go.Proofs.YtnloooiimpdabaaDoor
