/- 'alive' answers true. -/
import Derived.Test.YtibenegbjpoclabDoorPrH
namespace Go.Proofs.YtibenegbjpoclabDoor
open Go.RowKit

theorem num_any (n : Int) (w : World) : Calls Tryd.prog 22 #[.int .i64 n] w fun e w' => e = .returned (.agg #[.int .i64 2, .int .i64 n, .string ⟨#[]⟩]) ∧ Below w.heap.size w w' := by
  go_enter Tryd.func22, Tryd.ntmps22
  go_wp2
  exact bodyPost_ret (v := .agg #[.int .i64 2, .int .i64 n, .string ⟨#[]⟩]) (by simp [results, Tryd.results22, go_sem]) rfl ⟨rfl, (Below.refl _ _).alloc (Nat.le_refl _) _⟩
theorem signT_any (s : ByteArray) (w : World) : Calls Tryd.prog 23 #[.string s] w fun e w' => e = .returned (.agg #[.int .i64 3, .int .i64 0, .string s]) ∧ Below w.heap.size w w' := by
  go_enter Tryd.func23, Tryd.ntmps23
  go_wp2
  exact bodyPost_ret (v := .agg #[.int .i64 3, .int .i64 0, .string s]) (by simp [results, Tryd.results23, go_sem]) rfl ⟨rfl, (Below.refl _ _).alloc (Nat.le_refl _) _⟩

def aliveT : List Tok := [⟨2, 2, []⟩, ⟨3, 0, [43]⟩, ⟨2, 3, []⟩, ⟨3, 0, [42]⟩, ⟨2, 4, []⟩, ⟨3, 0, [44]⟩]
def aliveK : List Ex := [.mk 1 2 [] [], .mk 5 0 [] [.mk 1 3 [] [], .mk 1 4 [] []]]
def aliveE : Ex := .mk 6 0 [] aliveK
set_option maxRecDepth 100000 in
theorem alive_parses : Parses aliveT (.ok (aliveE, [⟨3, 0, [44]⟩])) := ⟨20, by kernel_rfl⟩
theorem alive_eval : evalR [] aliveE = .ok ⟨[], 14⟩ := by kernel_rfl
theorem alive_name : evalR [] (.mk 2 0 [97] []) = .ok ⟨[97], 0⟩ := by kernel_rfl
theorem alive_text : prE aliveE = [40, 32, 50, 32, 43, 32, 40, 32, 51, 32, 42, 32, 52, 32, 41, 32, 41] := by kernel_rfl
theorem alive_wf : Wf aliveE := .two (by decide) (by decide) (.num (by decide) (by decide)) (.two (by decide) (by decide) (.num (by decide) (by decide)) (.num (by decide) (by decide)))

end Go.Proofs.YtibenegbjpoclabDoor
