/-
  NARROWER THAN 'FOR EVERY INPUT', by the rows' own cells (each row's printed sentence says how): IsaTells: laid · IsaTurns: laid · IsaBytes: laid · ScanTells: laid · ScanPrint: laid · ScanLines: laid.
  DERIVED. THE GIVEN ROWS OF THIS SEAT. 6 by the template 'for every input the law returns true; each argument reads behind the call as it read before'; 0 by the template 'total and deterministic' (their statements: YtajeijhmlkbjgaaDoorTotals.lean).
  GIVEN WITH THE SEED: the statements are not yours to turn. If you find one false, say at which input.
  Laid BY PROGRAM, IN A SANDBOX (cutbox-rows.mjs): the forced cells as the released guide's own fill.sh prints them over the translation f00b6873489f7743… (all of the seat's roots in one cut). By AI agents, Wed Nov 11 2026. No macro, syntax, notation, axiom, sorry.
-/
import Derived.Test.YtajeijhmlkbjgaaDoorChecked
import GoSem.PinnedTables
import GoSem.Claim
import GoSem.ClaimJoined
import GoSem.ClaimMapViews
import Derived.JoinedTies
import Derived.KernelRfl
namespace Go.Proofs.YtajeijhmlkbjgaaDoor
/- THE CELL 'sum', in the pinned program and in every row, IS THE sha256 OF THE DUMP (.gsa) THAT YtajeijhmlkbjgaaDoorProg.lean LOADS. Nothing in Lean hashes anything: it is a label: what it is worth is what the hold of that sum in a sandbox is worth. -/
noncomputable def Tryd.pinned : Pinned := { name := "ytajeijhmlkbjgaadoor", sum := "f00b6873489f7743ad602c23c1938f0490bf0deb217e5aa290d3b5e9a23c175d", checked := Tryd.checked }
namespace Rows
def none {H : Type} : Left H := { results := [], args := [] }

/- WHAT THE LISTED PACKAGE-LEVEL VARIABLES READ AS WHEN THE CALL BEGINS. Each datum BY PROGRAM (the guide's laid-datum.mjs) off the statement by which the dump's own 'gosem.cut.vars' lays the variable. In a bare row this is a premise. The card (YtajeijhmlkbjgaaDoorCards.lean) ties it to the program's text. -/
def laid_platelayer_isa_operations {H : Type} : DataW H := .agg [.agg [.lit (.string []), .lit (.int .i64 0), .lit (.int .i64 0)], .agg [.lit (.string [110, 111, 112]), .lit (.int .i64 0), .lit (.int .i64 9)], .agg [.lit (.string [114, 116, 115]), .lit (.int .i64 0), .lit (.int .i64 11)], .agg [.lit (.string [109, 111, 118]), .lit (.int .i64 1), .lit (.int .i64 57344)], .agg [.lit (.string [97, 100, 100]), .lit (.int .i64 1), .lit (.int .i64 28672)], .agg [.lit (.string [109, 111, 118]), .lit (.int .i64 2), .lit (.int .i64 24579)], .agg [.lit (.string [97, 100, 100]), .lit (.int .i64 2), .lit (.int .i64 12300)], .agg [.lit (.string [115, 117, 98]), .lit (.int .i64 2), .lit (.int .i64 12296)], .agg [.lit (.string [97, 110, 100]), .lit (.int .i64 2), .lit (.int .i64 8201)], .agg [.lit (.string [111, 114]), .lit (.int .i64 2), .lit (.int .i64 8203)], .agg [.lit (.string [120, 111, 114]), .lit (.int .i64 2), .lit (.int .i64 8202)], .agg [.lit (.string [116, 115, 116]), .lit (.int .i64 2), .lit (.int .i64 8200)], .agg [.lit (.string [99, 109, 112, 47, 101, 113]), .lit (.int .i64 2), .lit (.int .i64 12288)], .agg [.lit (.string [99, 109, 112, 47, 103, 116]), .lit (.int .i64 2), .lit (.int .i64 12295)], .agg [.lit (.string [115, 104, 108, 108]), .lit (.int .i64 3), .lit (.int .i64 16384)], .agg [.lit (.string [115, 104, 108, 114]), .lit (.int .i64 3), .lit (.int .i64 16385)], .agg [.lit (.string [100, 116]), .lit (.int .i64 3), .lit (.int .i64 16400)], .agg [.lit (.string [98, 116]), .lit (.int .i64 4), .lit (.int .i64 35072)], .agg [.lit (.string [98, 102]), .lit (.int .i64 4), .lit (.int .i64 35584)], .agg [.lit (.string [98, 114, 97]), .lit (.int .i64 5), .lit (.int .i64 40960)], .agg [.lit (.string [98, 115, 114]), .lit (.int .i64 5), .lit (.int .i64 45056)], .agg [.lit (.string [106, 109, 112]), .lit (.int .i64 6), .lit (.int .i64 16427)], .agg [.lit (.string [106, 115, 114]), .lit (.int .i64 6), .lit (.int .i64 16395)], .agg [.lit (.string [109, 111, 118, 46, 119]), .lit (.int .i64 7), .lit (.int .i64 36864)], .agg [.lit (.string [109, 111, 118, 46, 108]), .lit (.int .i64 8), .lit (.int .i64 53248)], .agg [.lit (.string [109, 111, 118, 46, 108]), .lit (.int .i64 9), .lit (.int .i64 8194)], .agg [.lit (.string [109, 111, 118, 46, 108]), .lit (.int .i64 10), .lit (.int .i64 24578)], .agg [.lit (.string [116, 114, 97, 112, 97]), .lit (.int .i64 11), .lit (.int .i64 49920)]]
def laid_platelayer_isa_layouts {H : Type} : DataW H := .agg [.agg [.lit (.int .i64 0), .lit (.int .i64 0), .lit (.int .i64 0), .lit (.int .i64 0)], .agg [.lit (.int .i64 15), .lit (.int .i64 0), .lit (.int .i64 (-128)), .lit (.int .i64 127)], .agg [.lit (.int .i64 15), .lit (.int .i64 15), .lit (.int .i64 0), .lit (.int .i64 0)], .agg [.lit (.int .i64 15), .lit (.int .i64 0), .lit (.int .i64 0), .lit (.int .i64 0)], .agg [.lit (.int .i64 0), .lit (.int .i64 0), .lit (.int .i64 (-128)), .lit (.int .i64 127)], .agg [.lit (.int .i64 0), .lit (.int .i64 0), .lit (.int .i64 (-2048)), .lit (.int .i64 2047)], .agg [.lit (.int .i64 15), .lit (.int .i64 0), .lit (.int .i64 0), .lit (.int .i64 0)], .agg [.lit (.int .i64 15), .lit (.int .i64 0), .lit (.int .i64 0), .lit (.int .i64 255)], .agg [.lit (.int .i64 15), .lit (.int .i64 0), .lit (.int .i64 0), .lit (.int .i64 255)], .agg [.lit (.int .i64 15), .lit (.int .i64 15), .lit (.int .i64 0), .lit (.int .i64 0)], .agg [.lit (.int .i64 15), .lit (.int .i64 15), .lit (.int .i64 0), .lit (.int .i64 0)], .agg [.lit (.int .i64 0), .lit (.int .i64 0), .lit (.int .i64 0), .lit (.int .i64 255)]]
def laid_math_bits_deBruijn32tab {H : Type} : DataW H := .agg [.lit (.int .u8 0), .lit (.int .u8 1), .lit (.int .u8 28), .lit (.int .u8 2), .lit (.int .u8 29), .lit (.int .u8 14), .lit (.int .u8 24), .lit (.int .u8 3), .lit (.int .u8 30), .lit (.int .u8 22), .lit (.int .u8 20), .lit (.int .u8 15), .lit (.int .u8 25), .lit (.int .u8 17), .lit (.int .u8 4), .lit (.int .u8 8), .lit (.int .u8 31), .lit (.int .u8 27), .lit (.int .u8 13), .lit (.int .u8 23), .lit (.int .u8 21), .lit (.int .u8 19), .lit (.int .u8 16), .lit (.int .u8 7), .lit (.int .u8 26), .lit (.int .u8 12), .lit (.int .u8 18), .lit (.int .u8 6), .lit (.int .u8 11), .lit (.int .u8 5), .lit (.int .u8 10), .lit (.int .u8 9)]
def laid_math_bits_deBruijn64tab {H : Type} : DataW H := .agg [.lit (.int .u8 0), .lit (.int .u8 1), .lit (.int .u8 56), .lit (.int .u8 2), .lit (.int .u8 57), .lit (.int .u8 49), .lit (.int .u8 28), .lit (.int .u8 3), .lit (.int .u8 61), .lit (.int .u8 58), .lit (.int .u8 42), .lit (.int .u8 50), .lit (.int .u8 38), .lit (.int .u8 29), .lit (.int .u8 17), .lit (.int .u8 4), .lit (.int .u8 62), .lit (.int .u8 47), .lit (.int .u8 59), .lit (.int .u8 36), .lit (.int .u8 45), .lit (.int .u8 43), .lit (.int .u8 51), .lit (.int .u8 22), .lit (.int .u8 53), .lit (.int .u8 39), .lit (.int .u8 33), .lit (.int .u8 30), .lit (.int .u8 24), .lit (.int .u8 18), .lit (.int .u8 12), .lit (.int .u8 5), .lit (.int .u8 63), .lit (.int .u8 55), .lit (.int .u8 48), .lit (.int .u8 27), .lit (.int .u8 60), .lit (.int .u8 41), .lit (.int .u8 37), .lit (.int .u8 16), .lit (.int .u8 46), .lit (.int .u8 35), .lit (.int .u8 44), .lit (.int .u8 21), .lit (.int .u8 52), .lit (.int .u8 32), .lit (.int .u8 23), .lit (.int .u8 11), .lit (.int .u8 54), .lit (.int .u8 26), .lit (.int .u8 40), .lit (.int .u8 15), .lit (.int .u8 34), .lit (.int .u8 20), .lit (.int .u8 31), .lit (.int .u8 10), .lit (.int .u8 25), .lit (.int .u8 14), .lit (.int .u8 19), .lit (.int .u8 9), .lit (.int .u8 13), .lit (.int .u8 8), .lit (.int .u8 7), .lit (.int .u8 6)]
def laid_internal_strconv_uint64pow10 {H : Type} : DataW H := .agg [.lit (.int .u64 1), .lit (.int .u64 10), .lit (.int .u64 100), .lit (.int .u64 1000), .lit (.int .u64 10000), .lit (.int .u64 100000), .lit (.int .u64 1000000), .lit (.int .u64 10000000), .lit (.int .u64 100000000), .lit (.int .u64 1000000000), .lit (.int .u64 10000000000), .lit (.int .u64 100000000000), .lit (.int .u64 1000000000000), .lit (.int .u64 10000000000000), .lit (.int .u64 100000000000000), .lit (.int .u64 1000000000000000), .lit (.int .u64 10000000000000000), .lit (.int .u64 100000000000000000), .lit (.int .u64 1000000000000000000), .lit (.int .u64 10000000000000000000)]
def laid_unicode_utf8_acceptRanges {H : Type} : DataW H := .agg [.agg [.lit (.int .u8 128), .lit (.int .u8 191)], .agg [.lit (.int .u8 160), .lit (.int .u8 191)], .agg [.lit (.int .u8 128), .lit (.int .u8 159)], .agg [.lit (.int .u8 144), .lit (.int .u8 191)], .agg [.lit (.int .u8 128), .lit (.int .u8 143)], .agg [.lit (.int .u8 0), .lit (.int .u8 0)], .agg [.lit (.int .u8 0), .lit (.int .u8 0)], .agg [.lit (.int .u8 0), .lit (.int .u8 0)], .agg [.lit (.int .u8 0), .lit (.int .u8 0)], .agg [.lit (.int .u8 0), .lit (.int .u8 0)], .agg [.lit (.int .u8 0), .lit (.int .u8 0)], .agg [.lit (.int .u8 0), .lit (.int .u8 0)], .agg [.lit (.int .u8 0), .lit (.int .u8 0)], .agg [.lit (.int .u8 0), .lit (.int .u8 0)], .agg [.lit (.int .u8 0), .lit (.int .u8 0)], .agg [.lit (.int .u8 0), .lit (.int .u8 0)]]
def laid_strconv_ErrRange {H : Type} : DataW H := .iface "*errors.errorString" (.ptr (.agg [.lit (.string [118, 97, 108, 117, 101, 32, 111, 117, 116, 32, 111, 102, 32, 114, 97, 110, 103, 101])]))
def laid_strconv_ErrSyntax {H : Type} : DataW H := .iface "*errors.errorString" (.ptr (.agg [.lit (.string [105, 110, 118, 97, 108, 105, 100, 32, 115, 121, 110, 116, 97, 120])]))
/-- One of Go's own tables, pinned by name: the form's constant. -/
def laid_unicode_utf8_first : DataW Unit := Go.Pinned.utf8First

/-- 'pllaw1.IsaTells': WHATEVER THE INPUT: true; the input reads as it did. -/
def isaTellsSpec : ChangeSpec := { name := "isaTells", fn := fun _ => fun
  | [d1, d2, d3, d4, d5, d6, d7] => { results := [.lit (.bool true)], args := [d1, d2, d3, d4, d5, d6, d7] }
  | _ => none }
def isaTellsRow : OpenClaim := { program := "ytajeijhmlkbjgaadoor", sum := "f00b6873489f7743ad602c23c1938f0490bf0deb217e5aa290d3b5e9a23c175d", func := "platelayer/pllaw1.IsaTells", spec := "isaTells", named := ["platelayer/isa.operations", "platelayer/isa.layouts"], apart := false, laid := [("platelayer/isa.operations", laid_platelayer_isa_operations), ("platelayer/isa.layouts", laid_platelayer_isa_layouts)] }
def IsaTellsSaid : Prop := isaTellsRow.holds Tryd.pinned (OpenSpec.ofChange isaTellsSpec)

/-- ITS FALSE NEIGHBOUR: 'it returns false'. Refute it at one input. -/
def isaTellsWrong : ChangeSpec := { name := "isaTells", fn := fun _ => fun
  | [d1, d2, d3, d4, d5, d6, d7] => { results := [.lit (.bool false)], args := [d1, d2, d3, d4, d5, d6, d7] }
  | _ => none }
def IsaTellsWrongFalsely : Prop := isaTellsRow.holds Tryd.pinned (OpenSpec.ofChange isaTellsWrong)

/-- 'pllaw1.IsaTurns': WHATEVER THE INPUT: true; the input reads as it did. -/
def isaTurnsSpec : ChangeSpec := { name := "isaTurns", fn := fun _ => fun
  | [d1, d2] => { results := [.lit (.bool true)], args := [d1, d2] }
  | _ => none }
def isaTurnsRow : OpenClaim := { program := "ytajeijhmlkbjgaadoor", sum := "f00b6873489f7743ad602c23c1938f0490bf0deb217e5aa290d3b5e9a23c175d", func := "platelayer/pllaw1.IsaTurns", spec := "isaTurns", named := ["platelayer/isa.operations", "platelayer/isa.layouts"], apart := false, laid := [("platelayer/isa.operations", laid_platelayer_isa_operations), ("platelayer/isa.layouts", laid_platelayer_isa_layouts)] }
def IsaTurnsSaid : Prop := isaTurnsRow.holds Tryd.pinned (OpenSpec.ofChange isaTurnsSpec)

/-- ITS FALSE NEIGHBOUR: 'it returns false'. Refute it at one input. -/
def isaTurnsWrong : ChangeSpec := { name := "isaTurns", fn := fun _ => fun
  | [d1, d2] => { results := [.lit (.bool false)], args := [d1, d2] }
  | _ => none }
def IsaTurnsWrongFalsely : Prop := isaTurnsRow.holds Tryd.pinned (OpenSpec.ofChange isaTurnsWrong)

/-- 'pllaw1.IsaBytes': WHATEVER THE INPUT: true; the input reads as it did. -/
def isaBytesSpec : ChangeSpec := { name := "isaBytes", fn := fun _ => fun
  | [d1, d2, d3, d4, d5] => { results := [.lit (.bool true)], args := [d1, d2, d3, d4, d5] }
  | _ => none }
def isaBytesRow : OpenClaim := { program := "ytajeijhmlkbjgaadoor", sum := "f00b6873489f7743ad602c23c1938f0490bf0deb217e5aa290d3b5e9a23c175d", func := "platelayer/pllaw1.IsaBytes", spec := "isaBytes", named := ["platelayer/isa.operations", "platelayer/isa.layouts"], apart := false, laid := [("platelayer/isa.operations", laid_platelayer_isa_operations), ("platelayer/isa.layouts", laid_platelayer_isa_layouts)] }
def IsaBytesSaid : Prop := isaBytesRow.holds Tryd.pinned (OpenSpec.ofChange isaBytesSpec)

/-- ITS FALSE NEIGHBOUR: 'it returns false'. Refute it at one input. -/
def isaBytesWrong : ChangeSpec := { name := "isaBytes", fn := fun _ => fun
  | [d1, d2, d3, d4, d5] => { results := [.lit (.bool false)], args := [d1, d2, d3, d4, d5] }
  | _ => none }
def IsaBytesWrongFalsely : Prop := isaBytesRow.holds Tryd.pinned (OpenSpec.ofChange isaBytesWrong)

/-- 'pllaw2.ScanTells': WHATEVER THE INPUT: true; the input reads as it did. -/
def scanTellsSpec : ChangeSpec := { name := "scanTells", fn := fun _ => fun
  | [d1, d2, d3] => { results := [.lit (.bool true)], args := [d1, d2, d3] }
  | _ => none }
def scanTellsRow : OpenClaim := { program := "ytajeijhmlkbjgaadoor", sum := "f00b6873489f7743ad602c23c1938f0490bf0deb217e5aa290d3b5e9a23c175d", func := "platelayer/pllaw2.ScanTells", spec := "scanTells", inPlace := ["internal/bytealg.IndexByteString", "internal/bytealg.IndexString", "internal/abi.NoEscape", "internal/bytealg.MakeNoZero", "internal/bytealg.CountString"], unfollowed := true, recurses := true, named := ["internal/bytealg.MaxLen", "strconv.ErrSyntax", "strconv.ErrRange", "internal/strconv.uint64pow10", "math/bits.deBruijn32tab", "math/bits.deBruijn64tab", "unicode/utf8.first", "unicode/utf8.acceptRanges"], apart := false, laid := [("math/bits.deBruijn32tab", laid_math_bits_deBruijn32tab), ("math/bits.deBruijn64tab", laid_math_bits_deBruijn64tab), ("internal/strconv.uint64pow10", laid_internal_strconv_uint64pow10), ("unicode/utf8.acceptRanges", laid_unicode_utf8_acceptRanges), ("strconv.ErrRange", laid_strconv_ErrRange), ("strconv.ErrSyntax", laid_strconv_ErrSyntax), ("unicode/utf8.first", laid_unicode_utf8_first)] }
def ScanTellsSaid : Prop := scanTellsRow.holds Tryd.pinned (OpenSpec.ofChange scanTellsSpec)

/-- ITS FALSE NEIGHBOUR: 'it returns false'. Refute it at one input. -/
def scanTellsWrong : ChangeSpec := { name := "scanTells", fn := fun _ => fun
  | [d1, d2, d3] => { results := [.lit (.bool false)], args := [d1, d2, d3] }
  | _ => none }
def ScanTellsWrongFalsely : Prop := scanTellsRow.holds Tryd.pinned (OpenSpec.ofChange scanTellsWrong)

/-- 'pllaw2.ScanPrint': WHATEVER THE INPUT: true; the input reads as it did. -/
def scanPrintSpec : ChangeSpec := { name := "scanPrint", fn := fun _ => fun
  | [d] => { results := [.lit (.bool true)], args := [d] }
  | _ => none }
def scanPrintRow : OpenClaim := { program := "ytajeijhmlkbjgaadoor", sum := "f00b6873489f7743ad602c23c1938f0490bf0deb217e5aa290d3b5e9a23c175d", func := "platelayer/pllaw2.ScanPrint", spec := "scanPrint", inPlace := ["internal/bytealg.IndexByteString", "internal/bytealg.IndexString", "internal/bytealg.CountString", "internal/abi.NoEscape", "internal/bytealg.MakeNoZero"], unfollowed := true, recurses := true, named := ["internal/bytealg.MaxLen", "strconv.ErrSyntax", "strconv.ErrRange", "internal/strconv.uint64pow10", "math/bits.deBruijn32tab", "math/bits.deBruijn64tab", "unicode/utf8.first", "unicode/utf8.acceptRanges"], apart := false, laid := [("math/bits.deBruijn32tab", laid_math_bits_deBruijn32tab), ("math/bits.deBruijn64tab", laid_math_bits_deBruijn64tab), ("internal/strconv.uint64pow10", laid_internal_strconv_uint64pow10), ("unicode/utf8.acceptRanges", laid_unicode_utf8_acceptRanges), ("strconv.ErrRange", laid_strconv_ErrRange), ("strconv.ErrSyntax", laid_strconv_ErrSyntax), ("unicode/utf8.first", laid_unicode_utf8_first)] }
def ScanPrintSaid : Prop := scanPrintRow.holds Tryd.pinned (OpenSpec.ofChange scanPrintSpec)

/-- ITS FALSE NEIGHBOUR: 'it returns false'. Refute it at one input. -/
def scanPrintWrong : ChangeSpec := { name := "scanPrint", fn := fun _ => fun
  | [d] => { results := [.lit (.bool false)], args := [d] }
  | _ => none }
def ScanPrintWrongFalsely : Prop := scanPrintRow.holds Tryd.pinned (OpenSpec.ofChange scanPrintWrong)

/-- 'pllaw2.ScanLines': WHATEVER THE INPUT: true; the input reads as it did. -/
def scanLinesSpec : ChangeSpec := { name := "scanLines", fn := fun _ => fun
  | [d1, d2] => { results := [.lit (.bool true)], args := [d1, d2] }
  | _ => none }
def scanLinesRow : OpenClaim := { program := "ytajeijhmlkbjgaadoor", sum := "f00b6873489f7743ad602c23c1938f0490bf0deb217e5aa290d3b5e9a23c175d", func := "platelayer/pllaw2.ScanLines", spec := "scanLines", inPlace := ["internal/bytealg.IndexByteString", "internal/bytealg.IndexString", "internal/bytealg.CountString", "internal/abi.NoEscape", "internal/bytealg.MakeNoZero"], unfollowed := true, recurses := true, named := ["internal/bytealg.MaxLen", "strconv.ErrSyntax", "strconv.ErrRange", "internal/strconv.uint64pow10", "math/bits.deBruijn32tab", "math/bits.deBruijn64tab", "unicode/utf8.first", "unicode/utf8.acceptRanges"], apart := false, laid := [("math/bits.deBruijn32tab", laid_math_bits_deBruijn32tab), ("math/bits.deBruijn64tab", laid_math_bits_deBruijn64tab), ("internal/strconv.uint64pow10", laid_internal_strconv_uint64pow10), ("unicode/utf8.acceptRanges", laid_unicode_utf8_acceptRanges), ("strconv.ErrRange", laid_strconv_ErrRange), ("strconv.ErrSyntax", laid_strconv_ErrSyntax), ("unicode/utf8.first", laid_unicode_utf8_first)] }
def ScanLinesSaid : Prop := scanLinesRow.holds Tryd.pinned (OpenSpec.ofChange scanLinesSpec)

/-- ITS FALSE NEIGHBOUR: 'it returns false'. Refute it at one input. -/
def scanLinesWrong : ChangeSpec := { name := "scanLines", fn := fun _ => fun
  | [d1, d2] => { results := [.lit (.bool false)], args := [d1, d2] }
  | _ => none }
def ScanLinesWrongFalsely : Prop := scanLinesRow.holds Tryd.pinned (OpenSpec.ofChange scanLinesWrong)

/- THE SECOND FORM. 'bulk': how many values and letters a reading holds, each counted each time it is reached (what is shared counts as often as it is met; a slice's spare places count too). A statement '..UptoSaid' is the law's where the arguments, and the package variables that the reading takes, are together of bulk at most 1048576: NARROWER than '..Said'. Prove '..Said' where nothing that the law and all that it calls make is longer than what came in: it says more and counts as full. Else prove '..UptoSaid'. A law counts once. -/
mutual
def uptoBulk {H : Type} : DataW H → Nat
  | .lit (.string bytes) => bytes.length + 1
  | .lit _ => 1
  | .nil => 1
  | .ptr d => uptoBulk d + 1
  | .slice elems spare => uptoBulkAll elems + uptoBulkAll spare + 1
  | .agg parts => uptoBulkAll parts + 1
  | .iface _ d => uptoBulk d + 1
  | .map entries => uptoBulkEntries entries + 1
  | .held _ => 1
def uptoBulkAll {H : Type} : List (DataW H) → Nat
  | [] => 0
  | d :: r => uptoBulk d + uptoBulkAll r
def uptoBulkEntries {H : Type} : List (Lit × DataW H) → Nat
  | [] => 0
  | x :: r => uptoBulkEntry x + uptoBulkEntries r
def uptoBulkEntry {H : Type} : Lit × DataW H → Nat
  | (.string bytes, d) => bytes.length + uptoBulk d + 1
  | (_, d) => uptoBulk d + 1
 end
def uptoSmall : (H : Type) → List (DataW H) → Bool := fun _ ds => decide (uptoBulkAll ds ≤ 1048576)
def OpenSpec.upto (s : _root_.Go.ChangeSpec) : _root_.Go.OpenSpec := { _root_.Go.OpenSpec.ofChange s with cond := some uptoSmall }

/-- 'pllaw1.IsaTells', WHERE WHAT IT READS IS OF BULK AT MOST 1048576: true; the input reads as it did. -/
def isaTellsUptoRow : OpenClaim := { program := "ytajeijhmlkbjgaadoor", sum := "f00b6873489f7743ad602c23c1938f0490bf0deb217e5aa290d3b5e9a23c175d", func := "platelayer/pllaw1.IsaTells", spec := "isaTells", named := ["platelayer/isa.operations", "platelayer/isa.layouts"], apart := false, laid := [("platelayer/isa.operations", laid_platelayer_isa_operations), ("platelayer/isa.layouts", laid_platelayer_isa_layouts)], narrowed := true }
def IsaTellsUptoSaid : Prop := isaTellsUptoRow.holds Tryd.pinned (OpenSpec.upto isaTellsSpec)

/-- 'pllaw1.IsaTurns', WHERE WHAT IT READS IS OF BULK AT MOST 1048576: true; the input reads as it did. -/
def isaTurnsUptoRow : OpenClaim := { program := "ytajeijhmlkbjgaadoor", sum := "f00b6873489f7743ad602c23c1938f0490bf0deb217e5aa290d3b5e9a23c175d", func := "platelayer/pllaw1.IsaTurns", spec := "isaTurns", named := ["platelayer/isa.operations", "platelayer/isa.layouts"], apart := false, laid := [("platelayer/isa.operations", laid_platelayer_isa_operations), ("platelayer/isa.layouts", laid_platelayer_isa_layouts)], narrowed := true }
def IsaTurnsUptoSaid : Prop := isaTurnsUptoRow.holds Tryd.pinned (OpenSpec.upto isaTurnsSpec)

/-- 'pllaw1.IsaBytes', WHERE WHAT IT READS IS OF BULK AT MOST 1048576: true; the input reads as it did. -/
def isaBytesUptoRow : OpenClaim := { program := "ytajeijhmlkbjgaadoor", sum := "f00b6873489f7743ad602c23c1938f0490bf0deb217e5aa290d3b5e9a23c175d", func := "platelayer/pllaw1.IsaBytes", spec := "isaBytes", named := ["platelayer/isa.operations", "platelayer/isa.layouts"], apart := false, laid := [("platelayer/isa.operations", laid_platelayer_isa_operations), ("platelayer/isa.layouts", laid_platelayer_isa_layouts)], narrowed := true }
def IsaBytesUptoSaid : Prop := isaBytesUptoRow.holds Tryd.pinned (OpenSpec.upto isaBytesSpec)

/-- 'pllaw2.ScanTells', WHERE WHAT IT READS IS OF BULK AT MOST 1048576: true; the input reads as it did. -/
def scanTellsUptoRow : OpenClaim := { program := "ytajeijhmlkbjgaadoor", sum := "f00b6873489f7743ad602c23c1938f0490bf0deb217e5aa290d3b5e9a23c175d", func := "platelayer/pllaw2.ScanTells", spec := "scanTells", inPlace := ["internal/bytealg.IndexByteString", "internal/bytealg.IndexString", "internal/abi.NoEscape", "internal/bytealg.MakeNoZero", "internal/bytealg.CountString"], unfollowed := true, recurses := true, named := ["internal/bytealg.MaxLen", "strconv.ErrSyntax", "strconv.ErrRange", "internal/strconv.uint64pow10", "math/bits.deBruijn32tab", "math/bits.deBruijn64tab", "unicode/utf8.first", "unicode/utf8.acceptRanges"], apart := false, laid := [("math/bits.deBruijn32tab", laid_math_bits_deBruijn32tab), ("math/bits.deBruijn64tab", laid_math_bits_deBruijn64tab), ("internal/strconv.uint64pow10", laid_internal_strconv_uint64pow10), ("unicode/utf8.acceptRanges", laid_unicode_utf8_acceptRanges), ("strconv.ErrRange", laid_strconv_ErrRange), ("strconv.ErrSyntax", laid_strconv_ErrSyntax), ("unicode/utf8.first", laid_unicode_utf8_first)], narrowed := true }
def ScanTellsUptoSaid : Prop := scanTellsUptoRow.holds Tryd.pinned (OpenSpec.upto scanTellsSpec)

/-- 'pllaw2.ScanPrint', WHERE WHAT IT READS IS OF BULK AT MOST 1048576: true; the input reads as it did. -/
def scanPrintUptoRow : OpenClaim := { program := "ytajeijhmlkbjgaadoor", sum := "f00b6873489f7743ad602c23c1938f0490bf0deb217e5aa290d3b5e9a23c175d", func := "platelayer/pllaw2.ScanPrint", spec := "scanPrint", inPlace := ["internal/bytealg.IndexByteString", "internal/bytealg.IndexString", "internal/bytealg.CountString", "internal/abi.NoEscape", "internal/bytealg.MakeNoZero"], unfollowed := true, recurses := true, named := ["internal/bytealg.MaxLen", "strconv.ErrSyntax", "strconv.ErrRange", "internal/strconv.uint64pow10", "math/bits.deBruijn32tab", "math/bits.deBruijn64tab", "unicode/utf8.first", "unicode/utf8.acceptRanges"], apart := false, laid := [("math/bits.deBruijn32tab", laid_math_bits_deBruijn32tab), ("math/bits.deBruijn64tab", laid_math_bits_deBruijn64tab), ("internal/strconv.uint64pow10", laid_internal_strconv_uint64pow10), ("unicode/utf8.acceptRanges", laid_unicode_utf8_acceptRanges), ("strconv.ErrRange", laid_strconv_ErrRange), ("strconv.ErrSyntax", laid_strconv_ErrSyntax), ("unicode/utf8.first", laid_unicode_utf8_first)], narrowed := true }
def ScanPrintUptoSaid : Prop := scanPrintUptoRow.holds Tryd.pinned (OpenSpec.upto scanPrintSpec)

/-- 'pllaw2.ScanLines', WHERE WHAT IT READS IS OF BULK AT MOST 1048576: true; the input reads as it did. -/
def scanLinesUptoRow : OpenClaim := { program := "ytajeijhmlkbjgaadoor", sum := "f00b6873489f7743ad602c23c1938f0490bf0deb217e5aa290d3b5e9a23c175d", func := "platelayer/pllaw2.ScanLines", spec := "scanLines", inPlace := ["internal/bytealg.IndexByteString", "internal/bytealg.IndexString", "internal/bytealg.CountString", "internal/abi.NoEscape", "internal/bytealg.MakeNoZero"], unfollowed := true, recurses := true, named := ["internal/bytealg.MaxLen", "strconv.ErrSyntax", "strconv.ErrRange", "internal/strconv.uint64pow10", "math/bits.deBruijn32tab", "math/bits.deBruijn64tab", "unicode/utf8.first", "unicode/utf8.acceptRanges"], apart := false, laid := [("math/bits.deBruijn32tab", laid_math_bits_deBruijn32tab), ("math/bits.deBruijn64tab", laid_math_bits_deBruijn64tab), ("internal/strconv.uint64pow10", laid_internal_strconv_uint64pow10), ("unicode/utf8.acceptRanges", laid_unicode_utf8_acceptRanges), ("strconv.ErrRange", laid_strconv_ErrRange), ("strconv.ErrSyntax", laid_strconv_ErrSyntax), ("unicode/utf8.first", laid_unicode_utf8_first)], narrowed := true }
def ScanLinesUptoSaid : Prop := scanLinesUptoRow.holds Tryd.pinned (OpenSpec.upto scanLinesSpec)

end Rows
end Go.Proofs.YtajeijhmlkbjgaaDoor
