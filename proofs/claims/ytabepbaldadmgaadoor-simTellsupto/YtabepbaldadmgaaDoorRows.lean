/-
  NARROWER THAN 'FOR EVERY INPUT', by the rows' own cells (each row's printed sentence says how): SimTells: laid · SimParts: laid · SimStays: laid.
  DERIVED. THE GIVEN ROWS OF THIS SEAT. 3 by the template 'for every input the law returns true; each argument reads behind the call as it read before'; 0 by the template 'total and deterministic' (their statements: YtabepbaldadmgaaDoorTotals.lean).
  GIVEN WITH THE SEED: the statements are not yours to turn. If you find one false, say at which input.
  Laid BY PROGRAM, IN A SANDBOX (cutbox-rows.mjs): the forced cells as the released guide's own fill.sh prints them over the translation 2f2d59968d7b642d… (all of the seat's roots in one cut). By AI agents, Wed Nov 11 2026. No macro, syntax, notation, axiom, sorry.
-/
import Derived.Test.YtabepbaldadmgaaDoorChecked
import GoSem.Claim
import GoSem.ClaimJoined
import GoSem.ClaimMapViews
import Derived.JoinedTies
import Derived.KernelRfl
namespace Go.Proofs.YtabepbaldadmgaaDoor
/- THE CELL 'sum', in the pinned program and in every row, IS THE sha256 OF THE DUMP (.gsa) THAT YtabepbaldadmgaaDoorProg.lean LOADS. Nothing in Lean hashes anything: it is a label: what it is worth is what the hold of that sum in a sandbox is worth. -/
noncomputable def Tryd.pinned : Pinned := { name := "ytabepbaldadmgaadoor", sum := "2f2d59968d7b642d49d28af4708a6c7898ff7a99621788dccd94bfe9beb2e04b", checked := Tryd.checked }
namespace Rows
def none {H : Type} : Left H := { results := [], args := [] }

/- WHAT THE LISTED PACKAGE-LEVEL VARIABLES READ AS WHEN THE CALL BEGINS. Each datum BY PROGRAM (the guide's laid-datum.mjs) off the statement by which the dump's own 'gosem.cut.vars' lays the variable. In a bare row this is a premise. The card (YtabepbaldadmgaaDoorCards.lean) ties it to the program's text. -/
def laid_platelayer_isa_operations {H : Type} : DataW H := .agg [.agg [.lit (.string []), .lit (.int .i64 0), .lit (.int .i64 0)], .agg [.lit (.string [110, 111, 112]), .lit (.int .i64 0), .lit (.int .i64 9)], .agg [.lit (.string [114, 116, 115]), .lit (.int .i64 0), .lit (.int .i64 11)], .agg [.lit (.string [109, 111, 118]), .lit (.int .i64 1), .lit (.int .i64 57344)], .agg [.lit (.string [97, 100, 100]), .lit (.int .i64 1), .lit (.int .i64 28672)], .agg [.lit (.string [109, 111, 118]), .lit (.int .i64 2), .lit (.int .i64 24579)], .agg [.lit (.string [97, 100, 100]), .lit (.int .i64 2), .lit (.int .i64 12300)], .agg [.lit (.string [115, 117, 98]), .lit (.int .i64 2), .lit (.int .i64 12296)], .agg [.lit (.string [97, 110, 100]), .lit (.int .i64 2), .lit (.int .i64 8201)], .agg [.lit (.string [111, 114]), .lit (.int .i64 2), .lit (.int .i64 8203)], .agg [.lit (.string [120, 111, 114]), .lit (.int .i64 2), .lit (.int .i64 8202)], .agg [.lit (.string [116, 115, 116]), .lit (.int .i64 2), .lit (.int .i64 8200)], .agg [.lit (.string [99, 109, 112, 47, 101, 113]), .lit (.int .i64 2), .lit (.int .i64 12288)], .agg [.lit (.string [99, 109, 112, 47, 103, 116]), .lit (.int .i64 2), .lit (.int .i64 12295)], .agg [.lit (.string [115, 104, 108, 108]), .lit (.int .i64 3), .lit (.int .i64 16384)], .agg [.lit (.string [115, 104, 108, 114]), .lit (.int .i64 3), .lit (.int .i64 16385)], .agg [.lit (.string [100, 116]), .lit (.int .i64 3), .lit (.int .i64 16400)], .agg [.lit (.string [98, 116]), .lit (.int .i64 4), .lit (.int .i64 35072)], .agg [.lit (.string [98, 102]), .lit (.int .i64 4), .lit (.int .i64 35584)], .agg [.lit (.string [98, 114, 97]), .lit (.int .i64 5), .lit (.int .i64 40960)], .agg [.lit (.string [98, 115, 114]), .lit (.int .i64 5), .lit (.int .i64 45056)], .agg [.lit (.string [106, 109, 112]), .lit (.int .i64 6), .lit (.int .i64 16427)], .agg [.lit (.string [106, 115, 114]), .lit (.int .i64 6), .lit (.int .i64 16395)], .agg [.lit (.string [109, 111, 118, 46, 119]), .lit (.int .i64 7), .lit (.int .i64 36864)], .agg [.lit (.string [109, 111, 118, 46, 108]), .lit (.int .i64 8), .lit (.int .i64 53248)], .agg [.lit (.string [109, 111, 118, 46, 108]), .lit (.int .i64 9), .lit (.int .i64 8194)], .agg [.lit (.string [109, 111, 118, 46, 108]), .lit (.int .i64 10), .lit (.int .i64 24578)], .agg [.lit (.string [116, 114, 97, 112, 97]), .lit (.int .i64 11), .lit (.int .i64 49920)]]
def laid_platelayer_isa_layouts {H : Type} : DataW H := .agg [.agg [.lit (.int .i64 0), .lit (.int .i64 0), .lit (.int .i64 0), .lit (.int .i64 0)], .agg [.lit (.int .i64 15), .lit (.int .i64 0), .lit (.int .i64 (-128)), .lit (.int .i64 127)], .agg [.lit (.int .i64 15), .lit (.int .i64 15), .lit (.int .i64 0), .lit (.int .i64 0)], .agg [.lit (.int .i64 15), .lit (.int .i64 0), .lit (.int .i64 0), .lit (.int .i64 0)], .agg [.lit (.int .i64 0), .lit (.int .i64 0), .lit (.int .i64 (-128)), .lit (.int .i64 127)], .agg [.lit (.int .i64 0), .lit (.int .i64 0), .lit (.int .i64 (-2048)), .lit (.int .i64 2047)], .agg [.lit (.int .i64 15), .lit (.int .i64 0), .lit (.int .i64 0), .lit (.int .i64 0)], .agg [.lit (.int .i64 15), .lit (.int .i64 0), .lit (.int .i64 0), .lit (.int .i64 255)], .agg [.lit (.int .i64 15), .lit (.int .i64 0), .lit (.int .i64 0), .lit (.int .i64 255)], .agg [.lit (.int .i64 15), .lit (.int .i64 15), .lit (.int .i64 0), .lit (.int .i64 0)], .agg [.lit (.int .i64 15), .lit (.int .i64 15), .lit (.int .i64 0), .lit (.int .i64 0)], .agg [.lit (.int .i64 0), .lit (.int .i64 0), .lit (.int .i64 0), .lit (.int .i64 255)]]

/-- 'pllaw9.SimTells': WHATEVER THE INPUT: true; the input reads as it did. -/
def simTellsSpec : ChangeSpec := { name := "simTells", fn := fun _ => fun
  | [d1, d2] => { results := [.lit (.bool true)], args := [d1, d2] }
  | _ => none }
def simTellsRow : OpenClaim := { program := "ytabepbaldadmgaadoor", sum := "2f2d59968d7b642d49d28af4708a6c7898ff7a99621788dccd94bfe9beb2e04b", func := "platelayer/pllaw9.SimTells", spec := "simTells", unfollowed := true, recurses := true, named := ["platelayer/isa.operations", "platelayer/isa.layouts"], apart := false, laid := [("platelayer/isa.operations", laid_platelayer_isa_operations), ("platelayer/isa.layouts", laid_platelayer_isa_layouts)] }
def SimTellsSaid : Prop := simTellsRow.holds Tryd.pinned (OpenSpec.ofChange simTellsSpec)

/-- ITS FALSE NEIGHBOUR: 'it returns false'. Refute it at one input. -/
def simTellsWrong : ChangeSpec := { name := "simTells", fn := fun _ => fun
  | [d1, d2] => { results := [.lit (.bool false)], args := [d1, d2] }
  | _ => none }
def SimTellsWrongFalsely : Prop := simTellsRow.holds Tryd.pinned (OpenSpec.ofChange simTellsWrong)

/-- 'pllaw9.SimParts': WHATEVER THE INPUT: true; the input reads as it did. -/
def simPartsSpec : ChangeSpec := { name := "simParts", fn := fun _ => fun
  | [d1, d2, d3] => { results := [.lit (.bool true)], args := [d1, d2, d3] }
  | _ => none }
def simPartsRow : OpenClaim := { program := "ytabepbaldadmgaadoor", sum := "2f2d59968d7b642d49d28af4708a6c7898ff7a99621788dccd94bfe9beb2e04b", func := "platelayer/pllaw9.SimParts", spec := "simParts", named := ["platelayer/isa.operations", "platelayer/isa.layouts"], apart := false, laid := [("platelayer/isa.operations", laid_platelayer_isa_operations), ("platelayer/isa.layouts", laid_platelayer_isa_layouts)] }
def SimPartsSaid : Prop := simPartsRow.holds Tryd.pinned (OpenSpec.ofChange simPartsSpec)

/-- ITS FALSE NEIGHBOUR: 'it returns false'. Refute it at one input. -/
def simPartsWrong : ChangeSpec := { name := "simParts", fn := fun _ => fun
  | [d1, d2, d3] => { results := [.lit (.bool false)], args := [d1, d2, d3] }
  | _ => none }
def SimPartsWrongFalsely : Prop := simPartsRow.holds Tryd.pinned (OpenSpec.ofChange simPartsWrong)

/-- 'pllaw9.SimStays': WHATEVER THE INPUT: true; the input reads as it did. -/
def simStaysSpec : ChangeSpec := { name := "simStays", fn := fun _ => fun
  | [d1, d2] => { results := [.lit (.bool true)], args := [d1, d2] }
  | _ => none }
def simStaysRow : OpenClaim := { program := "ytabepbaldadmgaadoor", sum := "2f2d59968d7b642d49d28af4708a6c7898ff7a99621788dccd94bfe9beb2e04b", func := "platelayer/pllaw9.SimStays", spec := "simStays", named := ["platelayer/isa.operations", "platelayer/isa.layouts"], apart := false, laid := [("platelayer/isa.operations", laid_platelayer_isa_operations), ("platelayer/isa.layouts", laid_platelayer_isa_layouts)] }
def SimStaysSaid : Prop := simStaysRow.holds Tryd.pinned (OpenSpec.ofChange simStaysSpec)

/-- ITS FALSE NEIGHBOUR: 'it returns false'. Refute it at one input. -/
def simStaysWrong : ChangeSpec := { name := "simStays", fn := fun _ => fun
  | [d1, d2] => { results := [.lit (.bool false)], args := [d1, d2] }
  | _ => none }
def SimStaysWrongFalsely : Prop := simStaysRow.holds Tryd.pinned (OpenSpec.ofChange simStaysWrong)

/- THE SECOND FORM. 'bulk': how many values and letters a reading holds, each counted each time it is reached (what is shared counts as often as it is met; a slice's spare places count too). A statement '..UptoSaid' is the law's where the arguments, and the package variables that the reading takes, are together of bulk at most 1048576: NARROWER than '..Said'. Prove '..Said' where nothing that the law and all that it calls make is longer than what came in: it says more and counts as full. Else prove '..UptoSaid'. A law counts once. -/
mutual
def uptoBulk {H : Type} : DataW H → Nat
  | .lit (.string bytes) => bytes.length + 1
  | .lit _ => 1
  | .nil => 1
  | .ptr d => uptoBulk d + 1
  | .slice elems spare => uptoBulkAll elems + uptoBulkAll spare + 1
  | .agg parts => uptoBulkAll parts + 1
  | .iface _ d => uptoBulk d + 1
  | .map entries => uptoBulkEntries entries + 1
  | .held _ => 1
def uptoBulkAll {H : Type} : List (DataW H) → Nat
  | [] => 0
  | d :: r => uptoBulk d + uptoBulkAll r
def uptoBulkEntries {H : Type} : List (Lit × DataW H) → Nat
  | [] => 0
  | x :: r => uptoBulkEntry x + uptoBulkEntries r
def uptoBulkEntry {H : Type} : Lit × DataW H → Nat
  | (.string bytes, d) => bytes.length + uptoBulk d + 1
  | (_, d) => uptoBulk d + 1
 end
def uptoSmall : (H : Type) → List (DataW H) → Bool := fun _ ds => decide (uptoBulkAll ds ≤ 1048576)
def OpenSpec.upto (s : _root_.Go.ChangeSpec) : _root_.Go.OpenSpec := { _root_.Go.OpenSpec.ofChange s with cond := some uptoSmall }

/-- 'pllaw9.SimTells', WHERE WHAT IT READS IS OF BULK AT MOST 1048576: true; the input reads as it did. -/
def simTellsUptoRow : OpenClaim := { program := "ytabepbaldadmgaadoor", sum := "2f2d59968d7b642d49d28af4708a6c7898ff7a99621788dccd94bfe9beb2e04b", func := "platelayer/pllaw9.SimTells", spec := "simTells", unfollowed := true, recurses := true, named := ["platelayer/isa.operations", "platelayer/isa.layouts"], apart := false, laid := [("platelayer/isa.operations", laid_platelayer_isa_operations), ("platelayer/isa.layouts", laid_platelayer_isa_layouts)], narrowed := true }
def SimTellsUptoSaid : Prop := simTellsUptoRow.holds Tryd.pinned (OpenSpec.upto simTellsSpec)

/-- 'pllaw9.SimParts', WHERE WHAT IT READS IS OF BULK AT MOST 1048576: true; the input reads as it did. -/
def simPartsUptoRow : OpenClaim := { program := "ytabepbaldadmgaadoor", sum := "2f2d59968d7b642d49d28af4708a6c7898ff7a99621788dccd94bfe9beb2e04b", func := "platelayer/pllaw9.SimParts", spec := "simParts", named := ["platelayer/isa.operations", "platelayer/isa.layouts"], apart := false, laid := [("platelayer/isa.operations", laid_platelayer_isa_operations), ("platelayer/isa.layouts", laid_platelayer_isa_layouts)], narrowed := true }
def SimPartsUptoSaid : Prop := simPartsUptoRow.holds Tryd.pinned (OpenSpec.upto simPartsSpec)

/-- 'pllaw9.SimStays', WHERE WHAT IT READS IS OF BULK AT MOST 1048576: true; the input reads as it did. -/
def simStaysUptoRow : OpenClaim := { program := "ytabepbaldadmgaadoor", sum := "2f2d59968d7b642d49d28af4708a6c7898ff7a99621788dccd94bfe9beb2e04b", func := "platelayer/pllaw9.SimStays", spec := "simStays", named := ["platelayer/isa.operations", "platelayer/isa.layouts"], apart := false, laid := [("platelayer/isa.operations", laid_platelayer_isa_operations), ("platelayer/isa.layouts", laid_platelayer_isa_layouts)], narrowed := true }
def SimStaysUptoSaid : Prop := simStaysUptoRow.holds Tryd.pinned (OpenSpec.upto simStaysSpec)

end Rows
end Go.Proofs.YtabepbaldadmgaaDoor
