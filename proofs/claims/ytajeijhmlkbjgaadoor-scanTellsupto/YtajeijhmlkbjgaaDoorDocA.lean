/- Contracts of the document's own kind, Has and Name. -/
import Derived.Test.YtajeijhmlkbjgaaDoorScanC
namespace Go.Proofs.YtajeijhmlkbjgaaDoor
open Go.RowKit

/-- A byte's kind, as the document's answer tells it. -/
def kindR (c : Int) : Int := if letterB c then 97 else if digitB c then 48 else if blankB c then 32 else 0

theorem beq_no {a b : Int} (h : a ≠ b) : (a == b) = false := by simpa using h

set_option maxHeartbeats 1000000 in
theorem kind_any (c : Int) (w : World) :
    Calls Tryd.prog 48 #[.int .u8 c] w fun e w' => e = .returned (.int .u8 (kindR c)) ∧ w' = w := by
  by_cases he : c = 95 ∨ c = 46 ∨ c = 32 ∨ c = 9 ∨ c = 13
  · rcases he with rfl | rfl | rfl | rfl | rfl
    all_goals
      go_enter Tryd.func48, Tryd.ntmps48
      go_wp2
      go_ret
      exact ⟨rfl, rfl⟩
  · have e5 : (c == 95) = false := beq_no (by omega)
    have e6 : (c == 46) = false := beq_no (by omega)
    have e9 : (c == 32) = false := beq_no (by omega)
    have e10 : (c == 9) = false := beq_no (by omega)
    have e11 : (c == 13) = false := beq_no (by omega)
    have HE : Hid (¬ (c = 95 ∨ c = 46 ∨ c = 32 ∨ c = 9 ∨ c = 13)) := he
    clear he
    by_cases h1 : 97 ≤ c
    all_goals by_cases h2 : c ≤ 122
    all_goals try (exfalso; omega)
    all_goals by_cases h3 : 65 ≤ c
    all_goals try (exfalso; omega)
    all_goals by_cases h4 : c ≤ 90
    all_goals try (exfalso; omega)
    all_goals by_cases h7 : 48 ≤ c
    all_goals try (exfalso; omega)
    all_goals by_cases h8 : c ≤ 57
    all_goals try (exfalso; omega)
    all_goals
      go_enter Tryd.func48, Tryd.ntmps48
      go_wp2
      go_ret
      refine ⟨ret_int ?_, rfl⟩
      have hh := HE.out
      unfold kindR letterB digitB blankB
      repeat' split
      all_goals first | rfl | (exfalso; simp at *; omega)

/-- Has a text this byte? -/
def hasB (s : ByteArray) (c : Int) : Bool := s.data.toList.any fun x => (x.toNat : Int) == c

theorem has_yes {s : ByteArray} {c : Int} {k : Nat} (hk : k < s.size) (h : ((s[k].toNat : Int) == c) = true) : hasB s c = true := by
  unfold hasB
  rw [List.any_eq_true]
  exact ⟨s[k], by rw [Array.mem_toList_iff]; exact Array.getElem_mem _, h⟩

theorem has_no {s : ByteArray} {c : Int} (h : ∀ j, (hj : j < s.size) → ¬ ((s[j].toNat : Int) = c)) : hasB s c = false := by
  unfold hasB
  rw [List.any_eq_false]
  intro x hx
  rw [Array.mem_toList_iff, Array.mem_iff_getElem] at hx
  obtain ⟨j, hj, rfl⟩ := hx
  intro e
  exact h j hj (beq_iff_eq.1 e)

theorem has_any (s : ByteArray) (c : Int) (w : World) (hs : s.size ≤ maxLen) :
    Calls Tryd.prog 42 #[.string s, .int .u8 c] w fun e w' => e = .returned (.bool (hasB s c)) ∧ w' = w := by
  unfold maxLen at hs
  go_enter Tryd.func42, Tryd.ntmps42
  go_wp2
  go_loop [8] (fun i => ∃ k : Nat, k ≤ s.size ∧ i = .int .i64 k ∧ Hid (∀ j, (hj : j < s.size) → j < k → ¬ ((s[j].toNat : Int) = c))) (fun i => s.size - (intOf i).toNat)
  case atStart => exact ⟨0, Nat.zero_le _, rfl, fun j _ h => by omega⟩
  case round =>
    obtain ⟨k, hk, rfl, HN⟩ := hrel
    by_cases hlt : k < s.size
    · go_wp2
      · have h : ((s[k].toNat : Int) == c) = true := by assumption
        have hh := has_yes hlt h
        go_ret
        exact ⟨ret_bool hh.symm, rfl⟩
      · have h : ((s[k].toNat : Int) == c) = false := by assumption
        refine ⟨⟨k + 1, by omega, by go_num, fun j hj hjk => ?_⟩, by simp [intOf]; omega⟩
        by_cases e : j = k
        · subst e; simpa using h
        · exact HN.out j hj (by omega)
    · have HH : Hid (hasB s c = false) := has_no fun j hj => HN.out j hj (by omega)
      go_wp2
      go_ret
      exact ⟨ret_bool HH.out.symm, rfl⟩

theorem signs_all (c : UInt8) : hasB ⟨#[58, 44, 35, 64, 40, 41, 43, 45, 42, 38, 124, 126, 61]⟩ c.toNat = signB c.toNat := by
  have := all8 (fun c => hasB ⟨#[58, 44, 35, 64, 40, 41, 43, 45, 42, 38, 124, 126, 61]⟩ c.toNat == signB c.toNat) (by decide +kernel) c
  simpa using this

theorem signs_any (c : UInt8) (w : World) :
    Calls Tryd.prog 42 #[.string ⟨#[58, 44, 35, 64, 40, 41, 43, 45, 42, 38, 124, 126, 61]⟩, .int .u8 (c.toNat : Int)] w fun e w' => e = .returned (.bool (signB c.toNat)) ∧ w' = w := by
  have := has_any ⟨#[58, 44, 35, 64, 40, 41, 43, 45, 42, 38, 124, 126, 61]⟩ c.toNat w (by decide)
  rw [signs_all] at this
  exact this

end Go.Proofs.YtajeijhmlkbjgaaDoor
