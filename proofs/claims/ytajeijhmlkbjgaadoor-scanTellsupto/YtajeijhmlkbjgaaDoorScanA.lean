/- Contracts of the small functions of package scan that look at one byte. -/
import Derived.Test.YtajeijhmlkbjgaaDoorRows
import Derived.WalkKit
import Derived.WalkSpells
import Derived.WalkLawsBesides
import Derived.Deep.RegionHeld3
import Derived.BigQuiet
namespace Go.Proofs.YtajeijhmlkbjgaaDoor
open Go.RowKit

theorem ret_bool {a b : Bool} (h : a = b) : Ending.returned (.bool a) = .returned (.bool b) := by rw [h]
theorem ret_int {k : IntKind} {a b : Int} (h : a = b) : Ending.returned (.int k a) = .returned (.int k b) := by rw [h]

/-- What bytes are. -/
def letterB (c : Int) : Bool := decide (97 ≤ c ∧ c ≤ 122 ∨ 65 ≤ c ∧ c ≤ 90 ∨ c = 95 ∨ c = 46)
def digitB (c : Int) : Bool := decide (48 ≤ c ∧ c ≤ 57)
def blankB (c : Int) : Bool := decide (c = 32 ∨ c = 9 ∨ c = 13)
def wordB (c : Int) : Bool := letterB c || digitB c || decide (c = 47)
def numB (c : Int) : Bool := digitB c || letterB c && decide (c ≠ 46)
def nameB (c : Int) : Bool := decide (c ≠ 46) && (letterB c || digitB c)

theorem digit_any (c : Int) (w : World) :
    Calls Tryd.prog 50 #[.int .u8 c] w fun e w' => e = .returned (.bool (digitB c)) ∧ w' = w := by
  by_cases h1 : 48 ≤ c
  all_goals by_cases h2 : c ≤ 57
  all_goals
    go_enter Tryd.func50, Tryd.ntmps50
    go_wp2
    go_ret
    exact ⟨ret_bool (by simp [digitB]; omega), rfl⟩

theorem letter_any (c : Int) (w : World) :
    Calls Tryd.prog 53 #[.int .u8 c] w fun e w' => e = .returned (.bool (letterB c)) ∧ w' = w := by
  by_cases h1 : 97 ≤ c
  all_goals by_cases h2 : c ≤ 122
  all_goals by_cases h3 : 65 ≤ c
  all_goals by_cases h4 : c ≤ 90
  all_goals by_cases h5 : c = 95
  all_goals by_cases h6 : c = 46
  all_goals first
    | (exfalso; omega)
    | (have e5 : (c == 95) = decide (c = 95) := by rfl
       have e6 : (c == 46) = decide (c = 46) := by rfl
       simp only [h5, h6] at e5 e6
       go_enter Tryd.func53, Tryd.ntmps53
       go_wp2
       go_ret
       exact ⟨ret_bool (by first | (simp [letterB]; omega) | simp [letterB]), rfl⟩)

end Go.Proofs.YtajeijhmlkbjgaaDoor
