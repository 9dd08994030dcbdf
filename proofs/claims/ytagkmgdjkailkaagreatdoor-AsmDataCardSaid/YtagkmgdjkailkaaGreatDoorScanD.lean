/- Contracts of the closures of package scan's reader: reader itself, take. -/
import Derived.Test.YtagkmgdjkailkaaGreatDoorPut17
import Derived.Deep.DeepCutAuto
namespace Go.Proofs.YtagkmgdjkailkaaGreatDoor.Sc
open Go.RowKit

/-- The reader's three variables in memory. -/
structure Rd (w : World) (B : Nat) (s : ByteArray) : Prop where
  c0 : w.cell? ⟨B, 0, none⟩ = some (.string s)
  f0 : w.frozen? ⟨B, 0, none⟩ = false
  c1 : w.cell? ⟨B + 1, 0, none⟩ = some (.func (.func 61) #[] #[.pointer (some ⟨B, 0, none⟩)])
  c2 : w.cell? ⟨B + 2, 0, none⟩ = some (.func (.func 62) #[] #[.pointer (some ⟨B + 1, 0, none⟩), .pointer (some ⟨B, 0, none⟩)])

theorem enters61 : Enters1 65 := enters_of Tryz.func65 (by kernel_rfl) rfl
theorem enters62 : Enters1 67 := enters_of Tryz.func67 (by kernel_rfl) rfl
theorem enters64 : Enters1 70 := enters_of Tryz.func70 (by kernel_rfl) rfl
theorem enters52 : Enters1 149 := enters_of Tryz.func149 (by kernel_rfl) rfl

def readerV (B : Nat) : Value := .func (.func 64) #[] #[.pointer (some ⟨B + 2, 0, none⟩), .pointer (some ⟨B, 0, none⟩), .pointer (some ⟨B + 1, 0, none⟩)]

theorem reader_any (s : ByteArray) (w : World) :
    Calls Tryz.prog 38 #[.string s] w fun e w' => e = .returned (readerV w.heap.size) ∧ Rd w' w.heap.size s ∧ Below w.heap.size w w' ∧ w'.heap.size = w.heap.size + 3 := by
  go_enter Tryz.func38, Tryz.ntmps38
  go_wp2
  go_ret
  refine ⟨rfl, ⟨by simp [go_sem], by simp [go_sem], by simp [go_sem], by simp [go_sem]⟩, (((Below.refl _ _).alloc (Nat.le_refl _) _).alloc (by simp) _).alloc (by simp; omega) _, by simp⟩

theorem take_any (s : ByteArray) (f : FuncId) (p : Int → Bool) (B : Nat) (w : World) (hs : s.size ≤ 9223372036854775000) (he : Enters1 f) (hp : Asks f p) (hR : Rd w B s) :
    Calls Tryz.prog 62 #[.func (.func f) #[] #[], .pointer (some ⟨B + 1, 0, none⟩), .pointer (some ⟨B, 0, none⟩)] w fun e w' =>
      e = .returned (.string (s.extract 0 (spanL p s.data.toList))) ∧ w' = (w.setCell ⟨B, 0, none⟩ (.string (s.extract (spanL p s.data.toList) s.size))).drew := by
  have hle := spanL_le p s.data.toList
  have hle2 : spanL p s.data.toList ≤ s.size := by simpa using hle
  obtain ⟨c0, f0, c1, c2⟩ := hR
  go_enter Tryz.func62, Tryz.ntmps62
  go_wp2
  go_region_with (first | (go_at_call 63; refine (span_any _ _ _ _ hs he hp).mono ?_; rintro e w' ⟨rfl, rfl⟩) | (go_at_call 61; refine (cut_any _ _ _ w.drew hle2 c0 f0).mono ?_; rintro e w' ⟨rfl, rfl⟩))
  all_goals (go_wp2; go_ret; exact ⟨rfl, rfl⟩)

end Go.Proofs.YtagkmgdjkailkaaGreatDoor.Sc
