/- The contract of the document's own Wrong. The contract of the document's own Wrong, whole. What the document's own Encode and Decode go by: no function of the program. -/
import Derived.Test.YtagkmgdjkailkaaGreatDoorPut7
import Derived.Deep.DeepCutAuto
import Derived.Test.YtagkmgdjkailkaaGreatDoorPut3
namespace Go.Proofs.YtagkmgdjkailkaaGreatDoor.Isa
open Go.RowKit

/-- What plref1.Rows makes, said of a world that is a letter. -/
theorem rows_let (w : World) : Calls Tryz.prog 16 #[] w fun e w' => ∃ g, e = .returned (.map (some g)) ∧ w'.heap[g]? = some (mapOf 27) ∧ Below w.heap.size w w' ∧ g < w'.heap.size ∧ w.heap.size ≤ g := by
  refine (rows_any w).mono ?_
  rintro e w' ⟨rfl, rfl⟩
  exact ⟨w.heap.size, rfl, heap_alloc_new w _, (Below.refl _ _).alloc (Nat.le_refl _) _, by simp, Nat.le_refl _⟩

theorem set3 {x : World} {g : Nat} {a b c u0 u1 u2 : Value} (h0 : x.cell? ⟨g, 0, none⟩ = some u0) (h1 : x.cell? ⟨g, 1, none⟩ = some u1) (h2 : x.cell? ⟨g, 2, none⟩ = some u2) :
    (((x.setCell ⟨g, 0, none⟩ a).setCell ⟨g, 1, none⟩ b).setCell ⟨g, 2, none⟩ c).cell? ⟨g, 0, none⟩ = some a ∧ (((x.setCell ⟨g, 0, none⟩ a).setCell ⟨g, 1, none⟩ b).setCell ⟨g, 2, none⟩ c).cell? ⟨g, 1, none⟩ = some b ∧ (((x.setCell ⟨g, 0, none⟩ a).setCell ⟨g, 1, none⟩ b).setCell ⟨g, 2, none⟩ c).cell? ⟨g, 2, none⟩ = some c := by
  have d01 : (⟨g, 0, none⟩ : Addr) ≠ ⟨g, 1, none⟩ := by simp
  have d02 : (⟨g, 0, none⟩ : Addr) ≠ ⟨g, 2, none⟩ := by simp
  have d12 : (⟨g, 1, none⟩ : Addr) ≠ ⟨g, 2, none⟩ := by simp
  refine ⟨?_, ?_, ?_⟩
  · rw [World.cell?_setCell_other _ _ _ _ d02.symm, World.cell?_setCell_other _ _ _ _ d01.symm, World.cell?_setCell_same _ _ _ h0]
  · rw [World.cell?_setCell_other _ _ _ _ d12.symm, World.cell?_setCell_same (u := u1)]
    rw [World.cell?_setCell_other _ _ _ _ d01]; exact h1
  · rw [World.cell?_setCell_same (u := u2)]
    rw [World.cell?_setCell_other _ _ _ _ d12, World.cell?_setCell_other _ _ _ _ d02]; exact h2

/-- What is known behind 'r, ok := Rows()[i.Op]': the row lies in box g. -/
def RowIn (w : World) (op n m imm : Int) (g : Nat) (x : World) : Prop :=
  (w.heap.size < x.heap.size ∧ x.cell? ⟨w.heap.size, 0, none⟩ = some (.int .i64 op) ∧ x.cell? ⟨w.heap.size, 1, none⟩ = some (.int .i64 n) ∧ x.cell? ⟨w.heap.size, 2, none⟩ = some (.int .i64 m) ∧ x.cell? ⟨w.heap.size, 3, none⟩ = some (.int .i64 imm) ∧ Below w.heap.size w x)
    ∧ g < x.heap.size ∧ w.heap.size < g ∧ x.cell? ⟨g, 0, none⟩ = some (.string (infoName op)) ∧ x.cell? ⟨g, 1, none⟩ = some (.int .i64 (infoShape op)) ∧ x.cell? ⟨g, 2, none⟩ = some (.string (refTxt op))

end Go.Proofs.YtagkmgdjkailkaaGreatDoor.Isa

namespace Go.Proofs.YtagkmgdjkailkaaGreatDoor.Isa
open Go.RowKit

end Go.Proofs.YtagkmgdjkailkaaGreatDoor.Isa

namespace Go.Proofs.YtagkmgdjkailkaaGreatDoor.Isa
open Go.RowKit

/-- Bit by bit from the lowest one on: what is left of the text, the registers and the number, what is written, the next bit's worth. -/
def encRun : List UInt8 → Int → Int → Int → Int → Int → Int
  | [], _, _, _, w, _ => w
  | c :: cs, n, m, v, w, p =>
    if c = 49 then encRun cs n m v (w + p) (2 * p)
    else if c = 110 then encRun cs (n / 2) m v (w + n % 2 * p) (2 * p)
    else if c = 109 then encRun cs n (m / 2) v (w + m % 2 * p) (2 * p)
    else if c = 105 then encRun cs n m (v / 2) (w + v % 2 * p) (2 * p)
    else encRun cs n m v w (2 * p)

/-- The text from its end. -/
def revBits (k : Int) : List UInt8 := (refBits k).data.toList.reverse

theorem and_one (z : Int) : bits .and .i64 z 1 = z % 2 := by
  show IntKind.i64.wrap ((BitVec.ofInt IntKind.i64.bits z &&& BitVec.ofInt IntKind.i64.bits 1).toNat : Int) = _
  have : (BitVec.ofInt IntKind.i64.bits z &&& BitVec.ofInt IntKind.i64.bits 1).toNat = (z % 18446744073709551616).toNat % 2 := by
    show (BitVec.ofInt 64 z &&& BitVec.ofNat 64 1).toNat = _
    rw [BitVec.toNat_and, ofInt_toNat]
    show (z % 18446744073709551616).toNat &&& 1 = _
    rw [Nat.and_one_is_mod]
  rw [this, IntKind.wrap_i64]
  omega

theorem index9 (s : ByteArray) (k : Nat) (i : Int) (hi : i = (k : Int)) (hk : k < s.size) (w : World) : (Instr.index 9 (.string s) (.int .i64 i)).run Tryz.prog w = .ok (.int .u8 (s[k].toNat : Int)) w := by
  subst hi
  simp [Instr.index, run_underlying Tryz.underlying9, asIntOf, hk]

theorem refBits_16 (k : Int) (h0 : 1 ≤ k) (h1 : k ≤ 27) : (refBits k).size = 16 := by
  obtain ⟨j, rfl⟩ := Int.eq_ofNat_of_zero_le (show 0 ≤ k by omega)
  have : ∀ i : Fin 28, i.val ≠ 0 → (refBits (i.val : Int)).size = 16 := by decide +kernel
  exact this ⟨j, by omega⟩ (by show j ≠ 0; omega)

end Go.Proofs.YtagkmgdjkailkaaGreatDoor.Isa
