/- The contract of the document's own number. -/
import Derived.Test.YtajeijhmlkbjgaaDoorDocA
namespace Go.Proofs.YtajeijhmlkbjgaaDoor
open Go.RowKit

/-- How far a number has been read: what is left gives the answer; or it is too large already. -/
def NumAt (b : Nat) (D : List UInt8) (k n : Nat) : Prop :=
  n ≤ 68719476735 ∧ (n ≤ 4294967295 → parseN b 0 D = parseN b n (D.drop k)) ∧ (4294967295 < n → parseN b 0 D = none)

theorem numAt_start (b : Nat) (D : List UInt8) : NumAt b D 0 0 := ⟨by omega, fun _ => by simp, fun h => by omega⟩

theorem numAt_no {b : Nat} {D : List UInt8} {k n : Nat} {c : UInt8} {r : List UInt8} (h : NumAt b D k n) (hd : D.drop k = c :: r) (hc : digV b c.toNat = none ∨ 4294967295 < n) : parseN b 0 D = none := by
  by_cases hn : n ≤ 4294967295
  · rw [h.2.1 hn, hd]
    rcases hc with hc | hc
    · simp [parseN, hc]
    · omega
  · exact h.2.2 (by omega)

theorem digV_lt {b c d : Nat} (hb : b = 10 ∨ b = 16) (h : digV b c = some d) : d < b := by
  unfold digV at h
  rcases hb with rfl | rfl
  · split at h
    · injection h with h; omega
    · simp at h
  · split at h
    · injection h with h; omega
    · split at h
      · injection h with h; omega
      · split at h
        · injection h with h; omega
        · cases h

theorem numAt_step {b : Nat} (hb : b = 10 ∨ b = 16) {D : List UInt8} {k n d : Nat} {c : UInt8} {r : List UInt8} (h : NumAt b D k n) (hd : D.drop k = c :: r) (hc : digV b c.toNat = some d) (hn : n ≤ 4294967295) : NumAt b D (k + 1) (n * b + d) := by
  have hlt := digV_lt hb hc
  have hr : D.drop (k + 1) = r := by
    have : D.drop (k + 1) = (D.drop k).drop 1 := by rw [List.drop_drop]
    rw [this, hd]
    rfl
  have hp := h.2.1 hn
  rw [hd] at hp
  simp only [parseN, hc] at hp
  refine ⟨by rcases hb with rfl | rfl <;> omega, fun h1 => ?_, fun h1 => ?_⟩
  · rw [hp, if_pos h1, hr]
  · rw [hp, if_neg (by omega)]

theorem numAt_end {b : Nat} {D : List UInt8} {k n : Nat} (h : NumAt b D k n) (hk : D.length ≤ k) (hn : n ≤ 4294967295) : parseN b 0 D = some n := by
  rw [h.2.1 hn, List.drop_eq_nil_of_le hk]
  rfl

/-- What the document's own number answers. -/
def NumAns (o : Option Nat) (e : Ending) : Prop := ∃ x : Int, e = .returned (.tuple #[.int .i64 x, .bool o.isSome]) ∧ ∀ n, o = some n → x = n

/-- The digit at a byte, as an int; -1: none. -/
def digI (b c : Nat) : Int := match digV b c with
  | none => -1
  | some d => d

end Go.Proofs.YtajeijhmlkbjgaaDoor
