/- The contract of the document's own Wrong. -/
import Derived.Test.YtabepbaldadmgaaDoorIsaRefA
import Derived.Deep.DeepCutAuto
namespace Go.Proofs.YtabepbaldadmgaaDoor.Isa
open Go.RowKit

theorem refBits_size (k : Int) (h0 : 0 ≤ k) (h1 : k ≤ 27) : (refBits k).size ≤ 16 := by
  obtain ⟨j, rfl⟩ := Int.eq_ofNat_of_zero_le h0
  have : ∀ i : Fin 28, (refBits (i.val : Int)).size ≤ 16 := by decide +kernel
  exact this ⟨j, by omega⟩

/-- Which registers a row's text has. -/
theorem has_regs (k : Int) (h0 : 1 ≤ k) (h1 : k ≤ 27) : hasB (refBits k) 110 = (layN (opShape k) != 0) ∧ hasB (refBits k) 109 = (layM (opShape k) != 0) ∧ (layN (opShape k) = 0 ∨ layN (opShape k) = 15) ∧ (layM (opShape k) = 0 ∨ layM (opShape k) = 15) := by
  obtain ⟨j, rfl⟩ := Int.eq_ofNat_of_zero_le (show 0 ≤ k by omega)
  have : ∀ i : Fin 28, i.val ≠ 0 → hasB (refBits (i.val : Int)) 110 = (layN (opShape (i.val : Int)) != 0) ∧ hasB (refBits (i.val : Int)) 109 = (layM (opShape (i.val : Int)) != 0) ∧ (layN (opShape (i.val : Int)) = 0 ∨ layN (opShape (i.val : Int)) = 15) ∧ (layM (opShape (i.val : Int)) = 0 ∨ layM (opShape (i.val : Int)) = 15) := by decide +kernel
  exact this ⟨j, by omega⟩ (by show j ≠ 0; omega)

/-- What plref1.Rows makes, said of a world that is a letter. -/
theorem rows_let (w : World) : Calls Tryd.prog 30 #[] w fun e w' => ∃ g, e = .returned (.map (some g)) ∧ w'.heap[g]? = some (mapOf 27) ∧ Below w.heap.size w w' ∧ g < w'.heap.size ∧ w.heap.size ≤ g := by
  refine (rows_any w).mono ?_
  rintro e w' ⟨rfl, rfl⟩
  exact ⟨w.heap.size, rfl, heap_alloc_new w _, (Below.refl _ _).alloc (Nat.le_refl _) _, by simp, Nat.le_refl _⟩

theorem look_alloc {w1 : World} {g : Nat} (hg : w1.heap[g]? = some (mapOf 27)) (hlt : g < w1.heap.size) (O : Obj) : (w1.alloc O).heap[g]? = some (mapOf 27) := by
  rw [Below.heap_alloc w1 O g hlt]; exact hg

/-- The instruction's box stays. -/
theorem keepBox {w x y : World} {a b c d : Value} (hb : Below x.heap.size x y)
    (h : w.heap.size < x.heap.size ∧ x.cell? ⟨w.heap.size, 0, none⟩ = some a ∧ x.cell? ⟨w.heap.size, 1, none⟩ = some b ∧ x.cell? ⟨w.heap.size, 2, none⟩ = some c ∧ x.cell? ⟨w.heap.size, 3, none⟩ = some d ∧ Below w.heap.size w x) :
    w.heap.size < y.heap.size ∧ y.cell? ⟨w.heap.size, 0, none⟩ = some a ∧ y.cell? ⟨w.heap.size, 1, none⟩ = some b ∧ y.cell? ⟨w.heap.size, 2, none⟩ = some c ∧ y.cell? ⟨w.heap.size, 3, none⟩ = some d ∧ Below w.heap.size w y := by
  obtain ⟨h0, h1, h2, h3, h4, h5⟩ := h
  exact ⟨Nat.lt_of_lt_of_le h0 hb.size, by rw [hb.cell h0]; exact h1, by rw [hb.cell h0]; exact h2, by rw [hb.cell h0]; exact h3, by rw [hb.cell h0]; exact h4, h5.trans (hb.mono (by omega))⟩

theorem keepSet {w x : World} {a b c d v : Value} {g i : Nat} (hg : w.heap.size < g)
    (h : w.heap.size < x.heap.size ∧ x.cell? ⟨w.heap.size, 0, none⟩ = some a ∧ x.cell? ⟨w.heap.size, 1, none⟩ = some b ∧ x.cell? ⟨w.heap.size, 2, none⟩ = some c ∧ x.cell? ⟨w.heap.size, 3, none⟩ = some d ∧ Below w.heap.size w x) :
    w.heap.size < (x.setCell ⟨g, i, none⟩ v).heap.size ∧ (x.setCell ⟨g, i, none⟩ v).cell? ⟨w.heap.size, 0, none⟩ = some a ∧ (x.setCell ⟨g, i, none⟩ v).cell? ⟨w.heap.size, 1, none⟩ = some b ∧ (x.setCell ⟨g, i, none⟩ v).cell? ⟨w.heap.size, 2, none⟩ = some c ∧ (x.setCell ⟨g, i, none⟩ v).cell? ⟨w.heap.size, 3, none⟩ = some d ∧ Below w.heap.size w (x.setCell ⟨g, i, none⟩ v) := by
  obtain ⟨h0, h1, h2, h3, h4, h5⟩ := h
  have hne : ∀ j, (⟨g, i, none⟩ : Addr) ≠ ⟨w.heap.size, j, none⟩ := fun j e => by cases e; omega
  exact ⟨by simpa using h0, by rw [World.cell?_setCell_other _ _ _ _ (hne 0)]; exact h1, by rw [World.cell?_setCell_other _ _ _ _ (hne 1)]; exact h2, by rw [World.cell?_setCell_other _ _ _ _ (hne 2)]; exact h3, by rw [World.cell?_setCell_other _ _ _ _ (hne 3)]; exact h4, h5.setCell (by show w.heap.size ≤ g; omega) _⟩

theorem startBox (w : World) (a b c d : Value) : w.heap.size < (w.alloc (.cells #[a, b, c, d] 45)).drew.heap.size ∧ (w.alloc (.cells #[a, b, c, d] 45)).drew.cell? ⟨w.heap.size, 0, none⟩ = some a ∧ (w.alloc (.cells #[a, b, c, d] 45)).drew.cell? ⟨w.heap.size, 1, none⟩ = some b ∧ (w.alloc (.cells #[a, b, c, d] 45)).drew.cell? ⟨w.heap.size, 2, none⟩ = some c ∧ (w.alloc (.cells #[a, b, c, d] 45)).drew.cell? ⟨w.heap.size, 3, none⟩ = some d ∧ Below w.heap.size w (w.alloc (.cells #[a, b, c, d] 45)).drew := by
  refine ⟨?_, ?_, ?_, ?_, ?_, ((Below.refl _ _).alloc (Nat.le_refl _) _).drew⟩ <;> simp

theorem startBox' (w : World) (a b c d : Value) : w.heap.size < (w.alloc (.cells #[a, b, c, d] 45)).heap.size ∧ (w.alloc (.cells #[a, b, c, d] 45)).cell? ⟨w.heap.size, 0, none⟩ = some a ∧ (w.alloc (.cells #[a, b, c, d] 45)).cell? ⟨w.heap.size, 1, none⟩ = some b ∧ (w.alloc (.cells #[a, b, c, d] 45)).cell? ⟨w.heap.size, 2, none⟩ = some c ∧ (w.alloc (.cells #[a, b, c, d] 45)).cell? ⟨w.heap.size, 3, none⟩ = some d ∧ Below w.heap.size w (w.alloc (.cells #[a, b, c, d] 45)) := by
  refine ⟨?_, ?_, ?_, ?_, ?_, (Below.refl _ _).alloc (Nat.le_refl _) _⟩ <;> simp

theorem keepDrew {w x : World} {a b c d : Value} (h : w.heap.size < x.heap.size ∧ x.cell? ⟨w.heap.size, 0, none⟩ = some a ∧ x.cell? ⟨w.heap.size, 1, none⟩ = some b ∧ x.cell? ⟨w.heap.size, 2, none⟩ = some c ∧ x.cell? ⟨w.heap.size, 3, none⟩ = some d ∧ Below w.heap.size w x) :
    w.heap.size < x.drew.heap.size ∧ x.drew.cell? ⟨w.heap.size, 0, none⟩ = some a ∧ x.drew.cell? ⟨w.heap.size, 1, none⟩ = some b ∧ x.drew.cell? ⟨w.heap.size, 2, none⟩ = some c ∧ x.drew.cell? ⟨w.heap.size, 3, none⟩ = some d ∧ Below w.heap.size w x.drew :=
  ⟨h.1, h.2.1, h.2.2.1, h.2.2.2.1, h.2.2.2.2.1, h.2.2.2.2.2.drew⟩

theorem set3 {x : World} {g : Nat} {a b c u0 u1 u2 : Value} (h0 : x.cell? ⟨g, 0, none⟩ = some u0) (h1 : x.cell? ⟨g, 1, none⟩ = some u1) (h2 : x.cell? ⟨g, 2, none⟩ = some u2) :
    (((x.setCell ⟨g, 0, none⟩ a).setCell ⟨g, 1, none⟩ b).setCell ⟨g, 2, none⟩ c).cell? ⟨g, 0, none⟩ = some a ∧ (((x.setCell ⟨g, 0, none⟩ a).setCell ⟨g, 1, none⟩ b).setCell ⟨g, 2, none⟩ c).cell? ⟨g, 1, none⟩ = some b ∧ (((x.setCell ⟨g, 0, none⟩ a).setCell ⟨g, 1, none⟩ b).setCell ⟨g, 2, none⟩ c).cell? ⟨g, 2, none⟩ = some c := by
  have d01 : (⟨g, 0, none⟩ : Addr) ≠ ⟨g, 1, none⟩ := by simp
  have d02 : (⟨g, 0, none⟩ : Addr) ≠ ⟨g, 2, none⟩ := by simp
  have d12 : (⟨g, 1, none⟩ : Addr) ≠ ⟨g, 2, none⟩ := by simp
  refine ⟨?_, ?_, ?_⟩
  · rw [World.cell?_setCell_other _ _ _ _ d02.symm, World.cell?_setCell_other _ _ _ _ d01.symm, World.cell?_setCell_same _ _ _ h0]
  · rw [World.cell?_setCell_other _ _ _ _ d12.symm, World.cell?_setCell_same (u := u1)]
    rw [World.cell?_setCell_other _ _ _ _ d01]; exact h1
  · rw [World.cell?_setCell_same (u := u2)]
    rw [World.cell?_setCell_other _ _ _ _ d12, World.cell?_setCell_other _ _ _ _ d02]; exact h2

/-- What is known behind 'r, ok := Rows()[i.Op]': the row lies in box g. -/
def RowIn (w : World) (op n m imm : Int) (g : Nat) (x : World) : Prop :=
  (w.heap.size < x.heap.size ∧ x.cell? ⟨w.heap.size, 0, none⟩ = some (.int .i64 op) ∧ x.cell? ⟨w.heap.size, 1, none⟩ = some (.int .i64 n) ∧ x.cell? ⟨w.heap.size, 2, none⟩ = some (.int .i64 m) ∧ x.cell? ⟨w.heap.size, 3, none⟩ = some (.int .i64 imm) ∧ Below w.heap.size w x)
    ∧ g < x.heap.size ∧ w.heap.size < g ∧ x.cell? ⟨g, 0, none⟩ = some (.string (infoName op)) ∧ x.cell? ⟨g, 1, none⟩ = some (.int .i64 (infoShape op)) ∧ x.cell? ⟨g, 2, none⟩ = some (.string (refTxt op))

theorem rowIn_new {w w1 : World} {op n m imm : Int} (hz : w.heap.size < w1.heap.size)
    (h : w.heap.size < (w1.alloc (.cells #[.string (infoName op), .int .i64 (infoShape op), .string (refTxt op)] 65)).heap.size ∧ (w1.alloc (.cells #[.string (infoName op), .int .i64 (infoShape op), .string (refTxt op)] 65)).cell? ⟨w.heap.size, 0, none⟩ = some (.int .i64 op) ∧ (w1.alloc (.cells #[.string (infoName op), .int .i64 (infoShape op), .string (refTxt op)] 65)).cell? ⟨w.heap.size, 1, none⟩ = some (.int .i64 n) ∧ (w1.alloc (.cells #[.string (infoName op), .int .i64 (infoShape op), .string (refTxt op)] 65)).cell? ⟨w.heap.size, 2, none⟩ = some (.int .i64 m) ∧ (w1.alloc (.cells #[.string (infoName op), .int .i64 (infoShape op), .string (refTxt op)] 65)).cell? ⟨w.heap.size, 3, none⟩ = some (.int .i64 imm) ∧ Below w.heap.size w (w1.alloc (.cells #[.string (infoName op), .int .i64 (infoShape op), .string (refTxt op)] 65))) :
    RowIn w op n m imm w1.heap.size (w1.alloc (.cells #[.string (infoName op), .int .i64 (infoShape op), .string (refTxt op)] 65)) :=
  ⟨h, by simp, hz, by simp, by simp, by simp⟩

end Go.Proofs.YtabepbaldadmgaaDoor.Isa
