/- The contract of isa.Find. -/
import Derived.Test.YtgadpimknobljaaDoorIsaEnc
import Derived.Laws.Rows
namespace Go.Proofs.YtgadpimknobljaaDoor.Isa
open Go.RowKit

/-- A row of the table 'operations' as a value. -/
def opV (k : Int) : Value := .agg #[.string (opName k), .int .i64 (opShape k), .int .i64 (opBits k)]

set_option maxRecDepth 100000 in
theorem opIndexAll (w : World) : ((List.range 28).map fun k : Nat => (Instr.index 70 (.agg opCells) (.int .i64 (k : Int))).run Tryd.prog w) = (List.range 28).map fun k : Nat => .ok (opV (k : Int)) w := by kernel_rfl

theorem opIndex (k : Nat) (hk : k < 28) (w : World) : (Instr.index 70 (.agg opCells) (.int .i64 (k : Int))).run Tryd.prog w = .ok (.agg #[.string (opName k), .int .i64 (opShape k), .int .i64 (opBits k)]) w := by
  have h := congrArg (fun l => l[k]?) (opIndexAll w)
  simpa [hk, opV] using h

theorem opSize : (Tryd.prog.info? 70).map (·.size) = some opCells.size := by kernel_rfl

/-- Which op, from k on, has this name and shape: 0, if none has. -/
def findFrom (name : ByteArray) (shape : Int) : Nat → Nat → Int
  | 0, _ => 0
  | fuel + 1, k => if knownB k = true ∧ (opName k).toList = name.toList ∧ opShape k = shape then (k : Int) else findFrom name shape fuel (k + 1)

theorem find_yes {name : ByteArray} {shape : Int} {k : Nat} (hk : k < 28) (hf : findFrom name shape 28 0 = findFrom name shape (28 - k) k) (h1 : knownB k = true) (h2 : (opName k).toList = name.toList) (h3 : (opShape k == shape) = true) : findFrom name shape 28 0 = (k : Int) := by
  rw [hf]
  obtain ⟨j, hj⟩ : ∃ j, 28 - k = j + 1 := ⟨27 - k, by omega⟩
  rw [hj]
  unfold findFrom
  rw [if_pos ⟨h1, h2, by simpa using h3⟩]

theorem find_no {name : ByteArray} {shape : Int} {k : Nat} (hk : k < 28) (hf : findFrom name shape 28 0 = findFrom name shape (28 - k) k) (h : ¬ (knownB k = true ∧ (opName k).toList = name.toList ∧ opShape k = shape)) : findFrom name shape 28 0 = findFrom name shape (28 - (k + 1)) (k + 1) := by
  rw [hf]
  obtain ⟨j, hj⟩ : ∃ j, 28 - k = j + 1 := ⟨27 - k, by omega⟩
  have hj' : 28 - (k + 1) = j := by omega
  rw [hj, hj']
  rw [findFrom, if_neg h]

end Go.Proofs.YtgadpimknobljaaDoor.Isa
