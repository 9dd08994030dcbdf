/- The walk of pllaw1.IsaTells. -/
import Derived.Test.YtnloooiimpdabaaDoorRefD
import Derived.Test.YtnloooiimpdabaaDoorRefB
namespace Go.Proofs.YtnloooiimpdabaaDoor
open Go.RowKit

/-- The last op below j of this name and shape. -/
def lastTo (name : ByteArray) (shape : Int) : Nat → Int
  | 0 => 0
  | j + 1 => if knownB j = true ∧ (opName j).toList = name.toList ∧ opShape j = shape then (j : Int) else lastTo name shape j

theorem ops_differ : ∀ i j : Fin 28, i.val ≠ 0 → j.val ≠ 0 → (opName (i.val : Int)).toList = (opName (j.val : Int)).toList → opShape (i.val : Int) = opShape (j.val : Int) → i = j := by decide +kernel

def isOp (name : ByteArray) (shape : Int) (j : Nat) : Prop := knownB j = true ∧ (opName j).toList = name.toList ∧ opShape j = shape

theorem isOp_one {name : ByteArray} {shape : Int} {i j : Nat} (hi : isOp name shape i) (hj : isOp name shape j) : i = j := by
  have a : 1 ≤ i ∧ i ≤ 27 := by have := hi.1; simp [knownB, withinB] at this; omega
  have b : 1 ≤ j ∧ j ≤ 27 := by have := hj.1; simp [knownB, withinB] at this; omega
  have := ops_differ ⟨i, by omega⟩ ⟨j, by omega⟩ (by show i ≠ 0; omega) (by show j ≠ 0; omega) (hi.2.1.trans hj.2.1.symm) (hi.2.2.trans hj.2.2.symm)
  exact congrArg Fin.val this

theorem lastTo_spec (name : ByteArray) (shape : Int) : ∀ k, (∃ j, j < k ∧ isOp name shape j ∧ lastTo name shape k = j) ∨ ((∀ j, j < k → ¬ isOp name shape j) ∧ lastTo name shape k = 0) := by
  intro k
  induction k with
  | zero => exact .inr ⟨fun j h => by omega, rfl⟩
  | succ k ih =>
    unfold lastTo
    by_cases h : knownB k = true ∧ (opName k).toList = name.toList ∧ opShape k = shape
    · rw [if_pos h]
      exact .inl ⟨k, by omega, h, rfl⟩
    · rw [if_neg h]
      rcases ih with ⟨j, hj, h1, h2⟩ | ⟨h1, h2⟩
      · exact .inl ⟨j, by omega, h1, h2⟩
      · refine .inr ⟨fun j hj => ?_, h2⟩
        by_cases e : j = k
        · subst e; exact h
        · exact h1 j (by omega)

theorem findFrom_spec (name : ByteArray) (shape : Int) : ∀ f k, (∃ j, k ≤ j ∧ j < k + f ∧ isOp name shape j ∧ findFrom name shape f k = j) ∨ ((∀ j, k ≤ j → j < k + f → ¬ isOp name shape j) ∧ findFrom name shape f k = 0) := by
  intro f
  induction f with
  | zero => intro k; exact .inr ⟨fun j h1 h2 => by omega, rfl⟩
  | succ f ih =>
    intro k
    unfold findFrom
    by_cases h : knownB k = true ∧ (opName k).toList = name.toList ∧ opShape k = shape
    · rw [if_pos h]
      exact .inl ⟨k, Nat.le_refl _, by omega, h, rfl⟩
    · rw [if_neg h]
      rcases ih (k + 1) with ⟨j, h0, hj, h1, h2⟩ | ⟨h1, h2⟩
      · exact .inl ⟨j, by omega, by omega, h1, h2⟩
      · refine .inr ⟨fun j h0 hj => ?_, h2⟩
        by_cases e : j = k
        · subst e; exact h
        · exact h1 j (by omega) (by omega)

theorem last_find (name : ByteArray) (shape : Int) : lastTo name shape 28 = findFrom name shape 28 0 := by
  rcases lastTo_spec name shape 28 with ⟨j, hj, h1, h2⟩ | ⟨h1, h2⟩
  · rcases findFrom_spec name shape 28 0 with ⟨i, _, hi, g1, g2⟩ | ⟨g1, g2⟩
    · rw [h2, g2, isOp_one h1 g1]
    · exact absurd h1 (g1 j (by omega) (by omega))
  · rcases findFrom_spec name shape 28 0 with ⟨i, _, hi, g1, g2⟩ | ⟨g1, g2⟩
    · exact absurd g1 (h1 i (by omega))
    · rw [h2, g2]

theorem decV_form (x : Int) : ∃ a b c d : Int, decV x = .agg #[.int .i64 a, .int .i64 b, .int .i64 c, .int .i64 d] := by
  by_cases h : decE x = 0
  · obtain ⟨a, b, c, d, e, _, _⟩ := turn2 h
    exact ⟨a, b, c, d, e⟩
  · exact ⟨0, 0, 0, 0, turn3 h⟩

end Go.Proofs.YtnloooiimpdabaaDoor
