/- The contract of isa.Find. -/
import Derived.Test.YtnloooiimpdabaaDoorEnc
import Derived.Laws.Rows
namespace Go.Proofs.YtnloooiimpdabaaDoor
open Go.RowKit

/-- A row of the table 'operations' as a value. -/
def opV (k : Int) : Value := .agg #[.string (opName k), .int .i64 (opShape k), .int .i64 (opBits k)]

set_option maxRecDepth 100000 in
theorem opIndexAll (w : World) : ((List.range 28).map fun k : Nat => (Instr.index 52 (.agg opCells) (.int .i64 (k : Int))).run Tryd.prog w) = (List.range 28).map fun k : Nat => .ok (opV (k : Int)) w := by kernel_rfl

theorem opIndex (k : Nat) (hk : k < 28) (w : World) : (Instr.index 52 (.agg opCells) (.int .i64 (k : Int))).run Tryd.prog w = .ok (.agg #[.string (opName k), .int .i64 (opShape k), .int .i64 (opBits k)]) w := by
  have h := congrArg (fun l => l[k]?) (opIndexAll w)
  simpa [hk, opV] using h

theorem opSize : (Tryd.prog.info? 52).map (·.size) = some opCells.size := by kernel_rfl

/-- Which op, from k on, has this name and shape: 0, if none has. -/
def findFrom (name : ByteArray) (shape : Int) : Nat → Nat → Int
  | 0, _ => 0
  | fuel + 1, k => if knownB k = true ∧ (opName k).toList = name.toList ∧ opShape k = shape then (k : Int) else findFrom name shape fuel (k + 1)

theorem find_yes {name : ByteArray} {shape : Int} {k : Nat} (hk : k < 28) (hf : findFrom name shape 28 0 = findFrom name shape (28 - k) k) (h1 : knownB k = true) (h2 : (opName k).toList = name.toList) (h3 : (opShape k == shape) = true) : findFrom name shape 28 0 = (k : Int) := by
  rw [hf]
  obtain ⟨j, hj⟩ : ∃ j, 28 - k = j + 1 := ⟨27 - k, by omega⟩
  rw [hj]
  unfold findFrom
  rw [if_pos ⟨h1, h2, by simpa using h3⟩]

theorem find_no {name : ByteArray} {shape : Int} {k : Nat} (hk : k < 28) (hf : findFrom name shape 28 0 = findFrom name shape (28 - k) k) (h : ¬ (knownB k = true ∧ (opName k).toList = name.toList ∧ opShape k = shape)) : findFrom name shape 28 0 = findFrom name shape (28 - (k + 1)) (k + 1) := by
  rw [hf]
  obtain ⟨j, hj⟩ : ∃ j, 28 - k = j + 1 := ⟨27 - k, by omega⟩
  have hj' : 28 - (k + 1) = j := by omega
  rw [hj, hj']
  rw [findFrom, if_neg h]

theorem find_any (name : ByteArray) (shape : Int) (w : World) (hL : Laid w) :
    Calls Tryd.prog 10 #[.string name, .int .i64 shape] w fun e w' => e = .returned (.int .i64 (findFrom name shape 28 0)) ∧ Below w.heap.size w w' := by
  obtain ⟨t, fr, hblk⟩ := hL.blk
  go_enter Tryd.func10, Tryd.ntmps10
  go_wp2_with (refine wpList_load_row rfl 52 _ rfl 0 rfl t opCells fr _ hblk Tryd.underlying52 rfl opSize ?_)
  clear hblk
  go_loopw [8] (fun i wr => ∃ k : Nat, k ≤ 28 ∧ i = .int .i64 k ∧ Below w.heap.size w wr ∧ Hid (findFrom name shape 28 0 = findFrom name shape (28 - k) k)) (fun i _ => 28 - (intOf i).toNat)
  case atStart => exact ⟨0, Nat.zero_le _, rfl, Below.refl _ _, rfl⟩
  case round =>
    obtain ⟨k, hk, rfl, hB, HF⟩ := hrel
    by_cases hlt : k < 28
    · have hi := opIndex k hlt
      have hk' : (k : Int) < 28 := by omega
      cases hkn : knownB k
      · go_wp2_with (go_at_call 24; refine (known_any _ _).mono ?_; rintro e w' ⟨rfl, rfl⟩)
        exact ⟨⟨k + 1, by omega, by go_num, hB.alloc hB.size _, find_no hlt HF.out (by simp [hkn])⟩, by simp [intOf]; omega⟩
      · go_wp2_with (go_at_call 24; refine (known_any _ _).mono ?_; rintro e w' ⟨rfl, rfl⟩)
        · have h2 : (opName k).toList = name.toList := by assumption
          have h3 : (opShape k == shape) = true := by assumption
          have hfin := find_yes hlt HF.out hkn h2 h3
          go_ret
          exact ⟨ret_int hfin.symm, hB.alloc hB.size _⟩
        · have h3 : (opShape k == shape) = false := by assumption
          exact ⟨⟨k + 1, by omega, by go_num, hB.alloc hB.size _, find_no hlt HF.out (by simp at h3; simp [h3])⟩, by simp [intOf]; omega⟩
        · have h2 : ¬ (opName k).toList = name.toList := by assumption
          exact ⟨⟨k + 1, by omega, by go_num, hB.alloc hB.size _, find_no hlt HF.out (by simp [h2])⟩, by simp [intOf]; omega⟩
    · have hk' : ¬ (k : Int) < 28 := by omega
      have hfin : findFrom name shape 28 0 = 0 := by
        rw [HF.out, show 28 - k = 0 by omega]; rfl
      have HX : Hid (findFrom name shape 28 0 = 0) := hfin
      clear hfin
      go_wp2
      go_ret
      exact ⟨ret_int HX.out.symm, hB⟩

end Go.Proofs.YtnloooiimpdabaaDoor
