/- Contracts of the document's own Range, Has. -/
import Derived.Test.YtabepbaldadmgaaDoorIsaRef
namespace Go.Proofs.YtabepbaldadmgaaDoor.Isa
open Go.RowKit

theorem lay_else {s : Int} (h1 : s ≠ 1) (h4 : s ≠ 4) (h5 : s ≠ 5) (h7 : s ≠ 7) (h8 : s ≠ 8) (h11 : s ≠ 11) : layLow s = 0 ∧ layHigh s = 0 := by
  by_cases h : 0 ≤ s ∧ s ≤ 11
  · have : s = 0 ∨ s = 2 ∨ s = 3 ∨ s = 6 ∨ s = 9 ∨ s = 10 := by omega
    rcases this with rfl | rfl | rfl | rfl | rfl | rfl <;> decide
  · obtain ⟨_, _, e2, e3⟩ := lay_out h
    exact ⟨e2, e3⟩

theorem rRange_any (s : Int) (w : World) :
    Calls Tryd.prog 31 #[.int .i64 s] w fun e w' => e = .returned (.tuple #[.int .i64 (layLow s), .int .i64 (layHigh s)]) ∧ w' = w := by
  by_cases hs : s = 1 ∨ s = 4 ∨ s = 5 ∨ s = 7 ∨ s = 8 ∨ s = 11
  · rcases hs with rfl | rfl | rfl | rfl | rfl | rfl
    all_goals
      go_enter Tryd.func31, Tryd.ntmps31
      go_wp2
      go_ret2
      exact ⟨rfl, rfl⟩
  · have h1 : (s == 1) = false := beq_eq_false_iff_ne.2 (by omega)
    have h4 : (s == 4) = false := beq_eq_false_iff_ne.2 (by omega)
    have h5 : (s == 5) = false := beq_eq_false_iff_ne.2 (by omega)
    have h7 : (s == 7) = false := beq_eq_false_iff_ne.2 (by omega)
    have h8 : (s == 8) = false := beq_eq_false_iff_ne.2 (by omega)
    have h11 : (s == 11) = false := beq_eq_false_iff_ne.2 (by omega)
    obtain ⟨e1, e2⟩ := lay_else (s := s) (by omega) (by omega) (by omega) (by omega) (by omega) (by omega)
    rw [e1, e2]
    clear hs e1 e2
    go_enter Tryd.func31, Tryd.ntmps31
    go_wp2
    go_ret2
    exact ⟨rfl, rfl⟩

/-- Has a text this byte? -/
def hasB (s : ByteArray) (c : Int) : Bool := s.data.toList.any fun x => (x.toNat : Int) == c

theorem has_yes {s : ByteArray} {c : Int} {k : Nat} (hk : k < s.size) (h : ((s[k].toNat : Int) == c) = true) : hasB s c = true := by
  unfold hasB
  rw [List.any_eq_true]
  exact ⟨s[k], by rw [Array.mem_toList_iff]; exact Array.getElem_mem _, h⟩

theorem has_no {s : ByteArray} {c : Int} (h : ∀ j, (hj : j < s.size) → ¬ ((s[j].toNat : Int) = c)) : hasB s c = false := by
  unfold hasB
  rw [List.any_eq_false]
  intro x hx
  rw [Array.mem_toList_iff, Array.mem_iff_getElem] at hx
  obtain ⟨j, hj, rfl⟩ := hx
  intro e
  exact h j hj (beq_iff_eq.1 e)

end Go.Proofs.YtabepbaldadmgaaDoor.Isa
