/- Contracts of isa.Info, isa.Range, isa.Wrong and isa.Encode. -/
import Derived.Test.YtnloooiimpdabaaDoorLeaf
namespace Go.Proofs.YtnloooiimpdabaaDoor
open Go.RowKit

theorem below_draws {B : Nat} {a w : World} (h : Below B a w) (n : Nat) : Below B a (w.drewN n) := below_drewN h n

/-- What Info tells. -/
def infoName (k : Int) : ByteArray := if knownB k then opName k else ⟨#[]⟩
def infoShape (k : Int) : Int := if knownB k then opShape k else 0

theorem info_any (k : Int) (w : World) (hL : Laid w) :
    Calls Tryd.prog 7 #[.int .i64 k] w fun e w' => e = .returned (.tuple #[.string (infoName k), .int .i64 (infoShape k)]) ∧ Below w.heap.size w w' := by
  cases hk : knownB k
  · have e1 : infoName k = ⟨#[]⟩ := by simp [infoName, hk]
    have e2 : infoShape k = 0 := by simp [infoShape, hk]
    rw [e1, e2]
    clear e1 e2
    go_enter Tryd.func7, Tryd.ntmps7
    go_wp2_with (go_at_call 24; refine (known_any _ _).mono ?_; rintro e w' ⟨rfl, rfl⟩)
    go_ret2
    exact ⟨rfl, Below.refl _ _⟩
  · have e1 : infoName k = opName k := by simp [infoName, hk]
    have e2 : infoShape k = opShape k := by simp [infoShape, hk]
    rw [e1, e2]
    clear e1 e2
    have hk' := hk
    simp [knownB, withinB] at hk'
    have c0 := hL.o0 k (by omega) (by omega)
    have c1 := hL.o1 k (by omega) (by omega)
    obtain ⟨hk1, hk2⟩ := hk'
    go_enter Tryd.func7, Tryd.ntmps7
    go_wp2_with (go_at_call 24; refine (known_any _ _).mono ?_; rintro e w' ⟨rfl, rfl⟩)
    go_quiet (fail)
    go_wp2
    go_ret2
    exact ⟨rfl, below_draws (Below.refl _ _) _⟩

theorem range_any (s : Int) (w : World) (hL : Laid w) :
    Calls Tryd.prog 8 #[.int .i64 s] w fun e w' => e = .returned (.tuple #[.int .i64 (layLow s), .int .i64 (layHigh s)]) ∧ Below w.heap.size w w' := by
  go_enter Tryd.func8, Tryd.ntmps8
  go_wp2_with fail
  refine (layoutOf_any _ _ hL).mono ?_
  rintro e w1 ⟨rfl, hb1⟩
  unfold layV
  go_wp2_with fail
  go_quiet (fail)
  go_wp2
  go_ret2
  exact ⟨rfl, below_draws (hb1.alloc hb1.size _) _⟩

/-- What is wrong with an instruction. -/
def wrongI (op n m imm : Int) : Int :=
  if knownB op = true then (if withinB n 0 (layN (opShape op)) = true ∧ withinB m 0 (layM (opShape op)) = true ∧ withinB imm (layLow (opShape op)) (layHigh (opShape op)) = true then 0 else 3) else 1

theorem wrong_any (op n m imm : Int) (w : World) (hL : Laid w) :
    Calls Tryd.prog 11 #[.agg #[.int .i64 op, .int .i64 n, .int .i64 m, .int .i64 imm]] w fun e w' => e = .returned (.int .i64 (wrongI op n m imm)) ∧ Below w.heap.size w w' := by
  have hs := hL.sz
  have hs0 : 0 < w.heap.size := by omega
  cases hk : knownB op
  · have e1 : wrongI op n m imm = 1 := by simp [wrongI, hk]
    rw [e1]
    clear e1
    go_enter Tryd.func11, Tryd.ntmps11
    go_wp2_with (go_at_call 24; refine (known_any _ _).mono ?_; rintro e w' ⟨rfl, rfl⟩)
    go_ret
    exact ⟨rfl, (Below.refl _ _).alloc (Nat.le_refl _) _⟩
  · have hk' := hk
    simp [knownB, withinB] at hk'
    have c1 := hL.o1 op (by omega) (by omega)
    obtain ⟨hk1, hk2⟩ := hk'
    cases hn : withinB n 0 (layN (opShape op))
    · have e1 : wrongI op n m imm = 3 := by simp [wrongI, hk, hn]
      rw [e1]
      clear e1
      have H := hL.below ((Below.refl w.heap.size w).alloc (Nat.le_refl _) (.cells #[.int .i64 op, .int .i64 n, .int .i64 m, .int .i64 imm] 23)) hs
      go_enter Tryd.func11, Tryd.ntmps11
      go_wp2_with (go_at_call 24; refine (known_any _ _).mono ?_; rintro e w' ⟨rfl, rfl⟩)
      refine (layoutOf_any _ _ H).mono ?_
      rintro e w1 ⟨rfl, hb1⟩
      unfold layV
      obtain ⟨hc, hf⟩ := bcell hb1
      have hz0 : w.heap.size < w1.heap.size := by have := hb1.size; simp at this; omega
      have hB1 := ((Below.refl w.heap.size w).alloc (Nat.le_refl _) _).trans (hb1.mono (by simp))
      clear hb1 H
      go_wp2_with (go_at_call 26; refine (within_any _ _ _ _).mono ?_; rintro e w' ⟨rfl, rfl⟩)
      go_ret
      exact ⟨rfl, hB1.alloc hB1.size _⟩
    cases hm : withinB m 0 (layM (opShape op))
    · have e1 : wrongI op n m imm = 3 := by simp [wrongI, hk, hm]
      rw [e1]
      clear e1
      have H := hL.below ((Below.refl w.heap.size w).alloc (Nat.le_refl _) (.cells #[.int .i64 op, .int .i64 n, .int .i64 m, .int .i64 imm] 23)) hs
      go_enter Tryd.func11, Tryd.ntmps11
      go_wp2_with (go_at_call 24; refine (known_any _ _).mono ?_; rintro e w' ⟨rfl, rfl⟩)
      refine (layoutOf_any _ _ H).mono ?_
      rintro e w1 ⟨rfl, hb1⟩
      unfold layV
      obtain ⟨hc, hf⟩ := bcell hb1
      have hz0 : w.heap.size < w1.heap.size := by have := hb1.size; simp at this; omega
      have hB1 := ((Below.refl w.heap.size w).alloc (Nat.le_refl _) _).trans (hb1.mono (by simp))
      clear hb1 H
      go_wp2_with (go_at_call 26; refine (within_any _ _ _ _).mono ?_; rintro e w' ⟨rfl, rfl⟩)
      go_ret
      exact ⟨rfl, hB1.alloc hB1.size _⟩
    cases hi : withinB imm (layLow (opShape op)) (layHigh (opShape op))
    · have e1 : wrongI op n m imm = 3 := by simp [wrongI, hk, hi]
      rw [e1]
      clear e1
      have H := hL.below ((Below.refl w.heap.size w).alloc (Nat.le_refl _) (.cells #[.int .i64 op, .int .i64 n, .int .i64 m, .int .i64 imm] 23)) hs
      go_enter Tryd.func11, Tryd.ntmps11
      go_wp2_with (go_at_call 24; refine (known_any _ _).mono ?_; rintro e w' ⟨rfl, rfl⟩)
      refine (layoutOf_any _ _ H).mono ?_
      rintro e w1 ⟨rfl, hb1⟩
      unfold layV
      obtain ⟨hc, hf⟩ := bcell hb1
      have hz0 : w.heap.size < w1.heap.size := by have := hb1.size; simp at this; omega
      have hB1 := ((Below.refl w.heap.size w).alloc (Nat.le_refl _) _).trans (hb1.mono (by simp))
      clear hb1 H
      go_wp2_with (go_at_call 26; refine (within_any _ _ _ _).mono ?_; rintro e w' ⟨rfl, rfl⟩)
      go_ret
      exact ⟨rfl, hB1.alloc hB1.size _⟩
    · have e1 : wrongI op n m imm = 0 := by simp [wrongI, hk, hn, hm, hi]
      rw [e1]
      clear e1
      have H := hL.below ((Below.refl w.heap.size w).alloc (Nat.le_refl _) (.cells #[.int .i64 op, .int .i64 n, .int .i64 m, .int .i64 imm] 23)) hs
      go_enter Tryd.func11, Tryd.ntmps11
      go_wp2_with (go_at_call 24; refine (known_any _ _).mono ?_; rintro e w' ⟨rfl, rfl⟩)
      refine (layoutOf_any _ _ H).mono ?_
      rintro e w1 ⟨rfl, hb1⟩
      unfold layV
      obtain ⟨hc, hf⟩ := bcell hb1
      have hz0 : w.heap.size < w1.heap.size := by have := hb1.size; simp at this; omega
      have hB1 := ((Below.refl w.heap.size w).alloc (Nat.le_refl _) _).trans (hb1.mono (by simp))
      clear hb1 H
      go_wp2_with (go_at_call 26; refine (within_any _ _ _ _).mono ?_; rintro e w' ⟨rfl, rfl⟩)
      go_ret
      exact ⟨rfl, hB1.alloc hB1.size _⟩

end Go.Proofs.YtnloooiimpdabaaDoor
