/- Contracts of isa.Info, isa.Range, isa.Wrong and isa.Encode. -/
import Derived.Test.YtgadpimknobljaaDoorIsaLeaf
namespace Go.Proofs.YtgadpimknobljaaDoor.Isa
open Go.RowKit

theorem below_draws {B : Nat} {a w : World} (h : Below B a w) (n : Nat) : Below B a (w.drewN n) := below_drewN h n

/-- What Info tells. -/
def infoName (k : Int) : ByteArray := if knownB k then opName k else ⟨#[]⟩
def infoShape (k : Int) : Int := if knownB k then opShape k else 0

theorem info_any (k : Int) (w : World) (hL : Laid w) :
    Calls Tryd.prog 24 #[.int .i64 k] w fun e w' => e = .returned (.tuple #[.string (infoName k), .int .i64 (infoShape k)]) ∧ Below w.heap.size w w' := by
  cases hk : knownB k
  · have e1 : infoName k = ⟨#[]⟩ := by simp [infoName, hk]
    have e2 : infoShape k = 0 := by simp [infoShape, hk]
    rw [e1, e2]
    clear e1 e2
    go_enter Tryd.func24, Tryd.ntmps24
    go_wp2_with (go_at_call 33; refine (known_any _ _).mono ?_; rintro e w' ⟨rfl, rfl⟩)
    go_ret2
    exact ⟨rfl, Below.refl _ _⟩
  · have e1 : infoName k = opName k := by simp [infoName, hk]
    have e2 : infoShape k = opShape k := by simp [infoShape, hk]
    rw [e1, e2]
    clear e1 e2
    have hk' := hk
    simp [knownB, withinB] at hk'
    have c0 := hL.o0 k (by omega) (by omega)
    have c1 := hL.o1 k (by omega) (by omega)
    obtain ⟨hk1, hk2⟩ := hk'
    go_enter Tryd.func24, Tryd.ntmps24
    go_wp2_with (go_at_call 33; refine (known_any _ _).mono ?_; rintro e w' ⟨rfl, rfl⟩)
    go_quiet (fail)
    go_wp2
    go_ret2
    exact ⟨rfl, below_draws (Below.refl _ _) _⟩

/-- What is wrong with an instruction. -/
def wrongI (op n m imm : Int) : Int :=
  if knownB op = true then (if withinB n 0 (layN (opShape op)) = true ∧ withinB m 0 (layM (opShape op)) = true ∧ withinB imm (layLow (opShape op)) (layHigh (opShape op)) = true then 0 else 3) else 1

end Go.Proofs.YtgadpimknobljaaDoor.Isa
