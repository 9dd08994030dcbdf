/- The text of an expression. -/
import Derived.Test.YtibenegbjpoclabDoorExPrint
import Derived.Test.YtibenegbjpoclabDoorPaA
namespace Go.Proofs.YtibenegbjpoclabDoor
open Go.RowKit

theorem tailL_nil : tailL [] = [] := rfl
theorem tailL_app : ∀ a b : List Tok, tailL (a ++ b) = tailL a ++ tailL b
  | [], _ => rfl
  | t :: r, b => by rw [List.cons_append, tailL_cons, tailL_cons, tailL_app r b]; simp
theorem tailL_of {l : List Tok} (h : l ≠ []) : tailL l = 32 :: printL l := by
  cases l with
  | nil => exact absurd rfl h
  | cons t r => rw [tailL_cons, printL_cons]
theorem etoks_ne {e : Ex} (h : Wf e) : etoks e ≠ [] := by
  cases h with
  | num => rw [etoks_num]; simp
  | name => rw [etoks_name]; simp
  | neg => rw [etoks_neg]; simp
  | not => rw [etoks_not]; simp
  | two h5 => rw [etoks_two h5]; simp

/-- The text of an expression. -/
def prE (e : Ex) : List UInt8 := printL (etoks e)

theorem prE_num (n : Int) : prE (.mk 1 n [] []) = Lib.decDigits (n % 4294967296).toNat := by
  obtain ⟨m, hm⟩ : ∃ m : Nat, n % 4294967296 = m := ⟨(n % 4294967296).toNat, by omega⟩
  unfold prE
  rw [etoks_num, printL_cons, tailL_nil, hm]
  simp only [prT, if_true, List.append_nil]
  rw [Lib.itoa_nonneg]
  rfl
theorem prE_name (t : List UInt8) : prE (.mk 2 0 t []) = t := by
  unfold prE
  rw [etoks_name, printL_cons, tailL_nil]
  simp [prT]
theorem prE_neg {k : Ex} (h : Wf k) : prE (.mk 3 0 [] [k]) = [45, 32] ++ prE k := by
  unfold prE
  rw [etoks_neg, printL_cons, tailL_of (etoks_ne h)]
  simp [prT, sg]
theorem prE_not {k : Ex} (h : Wf k) : prE (.mk 4 0 [] [k]) = [126, 32] ++ prE k := by
  unfold prE
  rw [etoks_not, printL_cons, tailL_of (etoks_ne h)]
  simp [prT, sg]
theorem prE_two {kd : Int} {a b : Ex} (h5 : 5 ≤ kd) (ha : Wf a) (hb : Wf b) : prE (.mk kd 0 [] [a, b]) = [40, 32] ++ prE a ++ ([32] ++ signK kd ++ [32]) ++ prE b ++ [32, 41] := by
  unfold prE
  rw [etoks_two h5, printL_cons, tailL_app, tailL_of (etoks_ne ha), tailL_cons, tailL_app, tailL_of (etoks_ne hb), tailL_cons, tailL_nil]
  simp [prT, sg]

theorem signK_kSign {kd : Int} (h5 : 5 ≤ kd) (h11 : kd ≤ 11) : kSign kd = signK kd := by
  have : kd = 5 ∨ kd = 6 ∨ kd = 7 ∨ kd = 8 ∨ kd = 9 ∨ kd = 10 ∨ kd = 11 := by omega
  rcases this with rfl | rfl | rfl | rfl | rfl | rfl | rfl <;> decide

end Go.Proofs.YtibenegbjpoclabDoor
