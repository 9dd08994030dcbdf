/- Contracts of isa.Info, isa.Range, isa.Wrong and isa.Encode. The contract of isa.Encode. The contract of isa.Find. -/
import Derived.Test.YtabepbaldadmgaaDoorIsaLeaf
import Derived.Laws.Rows
namespace Go.Proofs.YtabepbaldadmgaaDoor.Isa
open Go.RowKit

theorem below_draws {B : Nat} {a w : World} (h : Below B a w) (n : Nat) : Below B a (w.drewN n) := below_drewN h n

/-- What Info tells. -/
def infoName (k : Int) : ByteArray := if knownB k then opName k else ⟨#[]⟩
def infoShape (k : Int) : Int := if knownB k then opShape k else 0

theorem info_any (k : Int) (w : World) (hL : Laid w) :
    Calls Tryd.prog 60 #[.int .i64 k] w fun e w' => e = .returned (.tuple #[.string (infoName k), .int .i64 (infoShape k)]) ∧ Below w.heap.size w w' := by
  cases hk : knownB k
  · have e1 : infoName k = ⟨#[]⟩ := by simp [infoName, hk]
    have e2 : infoShape k = 0 := by simp [infoShape, hk]
    rw [e1, e2]
    clear e1 e2
    go_enter Tryd.func60, Tryd.ntmps60
    go_wp2_with (go_at_call 54; refine (known_any _ _).mono ?_; rintro e w' ⟨rfl, rfl⟩)
    go_ret2
    exact ⟨rfl, Below.refl _ _⟩
  · have e1 : infoName k = opName k := by simp [infoName, hk]
    have e2 : infoShape k = opShape k := by simp [infoShape, hk]
    rw [e1, e2]
    clear e1 e2
    have hk' := hk
    simp [knownB, withinB] at hk'
    have c0 := hL.o0 k (by omega) (by omega)
    have c1 := hL.o1 k (by omega) (by omega)
    obtain ⟨hk1, hk2⟩ := hk'
    go_enter Tryd.func60, Tryd.ntmps60
    go_wp2_with (go_at_call 54; refine (known_any _ _).mono ?_; rintro e w' ⟨rfl, rfl⟩)
    go_quiet (fail)
    go_wp2
    go_ret2
    exact ⟨rfl, below_draws (Below.refl _ _) _⟩

/-- What is wrong with an instruction. -/
def wrongI (op n m imm : Int) : Int :=
  if knownB op = true then (if withinB n 0 (layN (opShape op)) = true ∧ withinB m 0 (layM (opShape op)) = true ∧ withinB imm (layLow (opShape op)) (layHigh (opShape op)) = true then 0 else 3) else 1

end Go.Proofs.YtabepbaldadmgaaDoor.Isa

namespace Go.Proofs.YtabepbaldadmgaaDoor.Isa
open Go.RowKit

/-- The half word of an instruction that may be. -/
def encI (op n m imm : Int) : Int :=
  bits .or .i64 (bits .or .i64 (bits .or .i64 (opBits op) (IntKind.i64.wrap (n * 256))) (IntKind.i64.wrap (m * 16))) (bits .and .i64 imm (layHigh (opShape op) - layLow (opShape op)))

theorem lay_bd (s : Int) : -4096 ≤ layLow s ∧ layLow s ≤ 4096 ∧ -4096 ≤ layHigh s ∧ layHigh s ≤ 4096 := by
  by_cases h : 0 ≤ s ∧ s ≤ 11
  · obtain ⟨k, hk⟩ : ∃ k : Nat, s = k := ⟨s.toNat, by omega⟩
    subst hk
    have hk : k < 12 := by omega
    have h' : ∀ j : Fin 12, -4096 ≤ layLow (j.val : Int) ∧ layLow (j.val : Int) ≤ 4096 ∧ -4096 ≤ layHigh (j.val : Int) ∧ layHigh (j.val : Int) ≤ 4096 := by decide
    exact h' ⟨k, hk⟩
  · obtain ⟨_, _, e2, e3⟩ := lay_out h
    rw [e2, e3]; omega

/-- The cells that Encode's last statement reads stay, behind a callee that writes nothing old. -/
theorem keepE {w w1 w2 : World} {B C B1 : Nat} {a b c d e : Value} (hb : Below B1 w1 w2) (hB : B < B1) (hC : C < B1)
    (h : B < w1.heap.size ∧ C < w1.heap.size ∧ w1.cell? ⟨B, 1, none⟩ = some a ∧ w1.cell? ⟨B, 2, none⟩ = some b ∧ w1.cell? ⟨B, 3, none⟩ = some c ∧ w1.cell? ⟨C, 1, none⟩ = some d ∧ w1.cell? ⟨C, 2, none⟩ = some e ∧ Below B w w1) :
    B < w2.heap.size ∧ C < w2.heap.size ∧ w2.cell? ⟨B, 1, none⟩ = some a ∧ w2.cell? ⟨B, 2, none⟩ = some b ∧ w2.cell? ⟨B, 3, none⟩ = some c ∧ w2.cell? ⟨C, 1, none⟩ = some d ∧ w2.cell? ⟨C, 2, none⟩ = some e ∧ Below B w w2 := by
  obtain ⟨h0, h1, h2, h3, h4, h5, h6, h7⟩ := h
  exact ⟨Nat.lt_of_lt_of_le h0 hb.size, Nat.lt_of_lt_of_le h1 hb.size, by rw [hb.cell hB]; exact h2, by rw [hb.cell hB]; exact h3, by rw [hb.cell hB]; exact h4, by rw [hb.cell hC]; exact h5, by rw [hb.cell hC]; exact h6, h7.trans (hb.mono (by omega))⟩

theorem laidE {w w1 : World} {C : Nat} {a b c d e : Value} (hL : Laid w) 
    (h : w.heap.size < w1.heap.size ∧ C < w1.heap.size ∧ w1.cell? ⟨w.heap.size, 1, none⟩ = some a ∧ w1.cell? ⟨w.heap.size, 2, none⟩ = some b ∧ w1.cell? ⟨w.heap.size, 3, none⟩ = some c ∧ w1.cell? ⟨C, 1, none⟩ = some d ∧ w1.cell? ⟨C, 2, none⟩ = some e ∧ Below w.heap.size w w1) : Laid w1 :=
  hL.below h.2.2.2.2.2.2.2 hL.sz

theorem startE {w w1 : World} {x a b c d e : Value} (hB : Below w.heap.size w w1) (hz : w.heap.size < w1.heap.size)
    (h1 : w1.cell? ⟨w.heap.size, 1, none⟩ = some a) (h2 : w1.cell? ⟨w.heap.size, 2, none⟩ = some b) (h3 : w1.cell? ⟨w.heap.size, 3, none⟩ = some c) :
    w.heap.size < (w1.alloc (.cells #[x, d, e] 89)).drew.heap.size ∧ w1.heap.size < (w1.alloc (.cells #[x, d, e] 89)).drew.heap.size ∧ (w1.alloc (.cells #[x, d, e] 89)).drew.cell? ⟨w.heap.size, 1, none⟩ = some a ∧ (w1.alloc (.cells #[x, d, e] 89)).drew.cell? ⟨w.heap.size, 2, none⟩ = some b ∧ (w1.alloc (.cells #[x, d, e] 89)).drew.cell? ⟨w.heap.size, 3, none⟩ = some c ∧ (w1.alloc (.cells #[x, d, e] 89)).drew.cell? ⟨w1.heap.size, 1, none⟩ = some d ∧ (w1.alloc (.cells #[x, d, e] 89)).drew.cell? ⟨w1.heap.size, 2, none⟩ = some e ∧ Below w.heap.size w (w1.alloc (.cells #[x, d, e] 89)).drew := by
  refine ⟨?_, ?_, ?_, ?_, ?_, ?_, ?_, (hB.alloc hB.size _).drew⟩
  · simp; omega
  · simp
  · simp; rw [World.cell?_alloc_lt _ _ _ (by simpa using hz)]; exact h1
  · simp; rw [World.cell?_alloc_lt _ _ _ (by simpa using hz)]; exact h2
  · simp; rw [World.cell?_alloc_lt _ _ _ (by simpa using hz)]; exact h3
  · simp
  · simp

theorem wrongI_zero {op n m imm : Int} (h : wrongI op n m imm = 0) : 1 ≤ op ∧ op ≤ 27 ∧ 0 ≤ n ∧ n ≤ layN (opShape op) ∧ 0 ≤ m ∧ m ≤ layM (opShape op) ∧ layLow (opShape op) ≤ imm ∧ imm ≤ layHigh (opShape op) := by
  unfold wrongI at h
  by_cases hk : knownB op = true
  · rw [if_pos hk] at h
    by_cases h3 : withinB n 0 (layN (opShape op)) = true ∧ withinB m 0 (layM (opShape op)) = true ∧ withinB imm (layLow (opShape op)) (layHigh (opShape op)) = true
    · simp [knownB, withinB] at hk h3
      omega
    · rw [if_neg h3] at h
      simp at h
  · rw [if_neg hk] at h
    simp at h

/-- What Encode tells: the half word, or 0. -/
def encW (op n m imm : Int) : Int := if wrongI op n m imm = 0 then encI op n m imm else 0

end Go.Proofs.YtabepbaldadmgaaDoor.Isa

namespace Go.Proofs.YtabepbaldadmgaaDoor.Isa
open Go.RowKit

/-- A row of the table 'operations' as a value. -/
def opV (k : Int) : Value := .agg #[.string (opName k), .int .i64 (opShape k), .int .i64 (opBits k)]

set_option maxRecDepth 100000 in
theorem opIndexAll (w : World) : ((List.range 28).map fun k : Nat => (Instr.index 90 (.agg opCells) (.int .i64 (k : Int))).run Tryd.prog w) = (List.range 28).map fun k : Nat => .ok (opV (k : Int)) w := by kernel_rfl

theorem opIndex (k : Nat) (hk : k < 28) (w : World) : (Instr.index 90 (.agg opCells) (.int .i64 (k : Int))).run Tryd.prog w = .ok (.agg #[.string (opName k), .int .i64 (opShape k), .int .i64 (opBits k)]) w := by
  have h := congrArg (fun l => l[k]?) (opIndexAll w)
  simpa [hk, opV] using h

theorem opSize : (Tryd.prog.info? 90).map (·.size) = some opCells.size := by kernel_rfl

/-- Which op, from k on, has this name and shape: 0, if none has. -/
def findFrom (name : ByteArray) (shape : Int) : Nat → Nat → Int
  | 0, _ => 0
  | fuel + 1, k => if knownB k = true ∧ (opName k).toList = name.toList ∧ opShape k = shape then (k : Int) else findFrom name shape fuel (k + 1)

theorem find_yes {name : ByteArray} {shape : Int} {k : Nat} (hk : k < 28) (hf : findFrom name shape 28 0 = findFrom name shape (28 - k) k) (h1 : knownB k = true) (h2 : (opName k).toList = name.toList) (h3 : (opShape k == shape) = true) : findFrom name shape 28 0 = (k : Int) := by
  rw [hf]
  obtain ⟨j, hj⟩ : ∃ j, 28 - k = j + 1 := ⟨27 - k, by omega⟩
  rw [hj]
  unfold findFrom
  rw [if_pos ⟨h1, h2, by simpa using h3⟩]

theorem find_no {name : ByteArray} {shape : Int} {k : Nat} (hk : k < 28) (hf : findFrom name shape 28 0 = findFrom name shape (28 - k) k) (h : ¬ (knownB k = true ∧ (opName k).toList = name.toList ∧ opShape k = shape)) : findFrom name shape 28 0 = findFrom name shape (28 - (k + 1)) (k + 1) := by
  rw [hf]
  obtain ⟨j, hj⟩ : ∃ j, 28 - k = j + 1 := ⟨27 - k, by omega⟩
  have hj' : 28 - (k + 1) = j := by omega
  rw [hj, hj']
  rw [findFrom, if_neg h]

end Go.Proofs.YtabepbaldadmgaaDoor.Isa
