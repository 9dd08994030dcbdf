/- The document's Encode writes the same half word. -/
import Derived.Test.YtnloooiimpdabaaDoorRefE
namespace Go.Proofs.YtnloooiimpdabaaDoor
open Go.RowKit

def chk3 (k : Nat) : Bool :=
  allB (fun n => allB (fun m => allB (fun i => Nat.beq (encN k n m i) ((opBits k).toNat + n * 256 + m * 16 + i)) (wideI k) 0) (wideM k) 0) (wideN k) 0
set_option maxRecDepth 100000 in
theorem chk3_all : ((List.range 28).all fun k => Nat.beq k 0 || chk3 k) = true := by decide +kernel

theorem encN_add (k n m i : Nat) (hk : k < 28) (hk0 : k ≠ 0) (hn : n < 2 ^ wideN k) (hm : m < 2 ^ wideM k) (hi : i < 2 ^ wideI k) : encN k n m i = (opBits k).toNat + n * 256 + m * 16 + i := by
  have hc := chk3_all
  rw [List.all_eq_true] at hc
  have hc1 := hc k (by simpa using hk)
  have hc2 : chk3 k = true := by
    simp only [Bool.or_eq_true] at hc1
    rcases hc1 with h | h
    · exact absurd (Nat.beq_eq ▸ h : k = 0) hk0
    · exact h
  have t1 := allB_spec _ _ _ hc2 n (Nat.zero_le _) (by omega)
  have t2 := allB_spec _ _ _ t1 m (Nat.zero_le _) (by omega)
  have t3 := allB_spec _ _ _ t2 i (Nat.zero_le _) (by omega)
  exact Nat.beq_eq ▸ t3

theorem revBits_1 : revBits ((1 : Nat) : Int) = [49, 48, 48, 49, 48, 48, 48, 48, 48, 48, 48, 48, 48, 48, 48, 48] := by decide +kernel
theorem run_1 (n m v : Int) (hn0 : 0 ≤ n) (hn1 : n < ((2 ^ wideN 1 : Nat) : Int)) (hm0 : 0 ≤ m) (hm1 : m < ((2 ^ wideM 1 : Nat) : Int)) : encRun (revBits ((1 : Nat) : Int)) n m v 0 1 = opBits ((1 : Nat) : Int) + n * 256 + m * 16 + v % ((2 ^ wideI 1 : Nat) : Int) := by
  rw [show wideN 1 = 0 from rfl] at hn1
  rw [show wideM 1 = 0 from rfl] at hm1
  rw [revBits_1, show wideI 1 = 0 from rfl, show opBits ((1 : Nat) : Int) = 9 by decide +kernel]
  simp at hn1 hm1
  simp [encRun]
  omega

theorem revBits_2 : revBits ((2 : Nat) : Int) = [49, 49, 48, 49, 48, 48, 48, 48, 48, 48, 48, 48, 48, 48, 48, 48] := by decide +kernel
theorem run_2 (n m v : Int) (hn0 : 0 ≤ n) (hn1 : n < ((2 ^ wideN 2 : Nat) : Int)) (hm0 : 0 ≤ m) (hm1 : m < ((2 ^ wideM 2 : Nat) : Int)) : encRun (revBits ((2 : Nat) : Int)) n m v 0 1 = opBits ((2 : Nat) : Int) + n * 256 + m * 16 + v % ((2 ^ wideI 2 : Nat) : Int) := by
  rw [show wideN 2 = 0 from rfl] at hn1
  rw [show wideM 2 = 0 from rfl] at hm1
  rw [revBits_2, show wideI 2 = 0 from rfl, show opBits ((2 : Nat) : Int) = 11 by decide +kernel]
  simp at hn1 hm1
  simp [encRun]
  omega

theorem revBits_3 : revBits ((3 : Nat) : Int) = [105, 105, 105, 105, 105, 105, 105, 105, 110, 110, 110, 110, 48, 49, 49, 49] := by decide +kernel
theorem run_3 (n m v : Int) (hn0 : 0 ≤ n) (hn1 : n < ((2 ^ wideN 3 : Nat) : Int)) (hm0 : 0 ≤ m) (hm1 : m < ((2 ^ wideM 3 : Nat) : Int)) : encRun (revBits ((3 : Nat) : Int)) n m v 0 1 = opBits ((3 : Nat) : Int) + n * 256 + m * 16 + v % ((2 ^ wideI 3 : Nat) : Int) := by
  rw [show wideN 3 = 4 from rfl] at hn1
  rw [show wideM 3 = 0 from rfl] at hm1
  rw [revBits_3, show wideI 3 = 8 from rfl, show opBits ((3 : Nat) : Int) = 57344 by decide +kernel]
  simp at hn1 hm1
  simp [encRun]
  omega

theorem revBits_4 : revBits ((4 : Nat) : Int) = [105, 105, 105, 105, 105, 105, 105, 105, 110, 110, 110, 110, 49, 49, 49, 48] := by decide +kernel
theorem run_4 (n m v : Int) (hn0 : 0 ≤ n) (hn1 : n < ((2 ^ wideN 4 : Nat) : Int)) (hm0 : 0 ≤ m) (hm1 : m < ((2 ^ wideM 4 : Nat) : Int)) : encRun (revBits ((4 : Nat) : Int)) n m v 0 1 = opBits ((4 : Nat) : Int) + n * 256 + m * 16 + v % ((2 ^ wideI 4 : Nat) : Int) := by
  rw [show wideN 4 = 4 from rfl] at hn1
  rw [show wideM 4 = 0 from rfl] at hm1
  rw [revBits_4, show wideI 4 = 8 from rfl, show opBits ((4 : Nat) : Int) = 28672 by decide +kernel]
  simp at hn1 hm1
  simp [encRun]
  omega

theorem revBits_5 : revBits ((5 : Nat) : Int) = [49, 49, 48, 48, 109, 109, 109, 109, 110, 110, 110, 110, 48, 49, 49, 48] := by decide +kernel
theorem run_5 (n m v : Int) (hn0 : 0 ≤ n) (hn1 : n < ((2 ^ wideN 5 : Nat) : Int)) (hm0 : 0 ≤ m) (hm1 : m < ((2 ^ wideM 5 : Nat) : Int)) : encRun (revBits ((5 : Nat) : Int)) n m v 0 1 = opBits ((5 : Nat) : Int) + n * 256 + m * 16 + v % ((2 ^ wideI 5 : Nat) : Int) := by
  rw [show wideN 5 = 4 from rfl] at hn1
  rw [show wideM 5 = 4 from rfl] at hm1
  rw [revBits_5, show wideI 5 = 0 from rfl, show opBits ((5 : Nat) : Int) = 24579 by decide +kernel]
  simp at hn1 hm1
  simp [encRun]
  omega

theorem revBits_6 : revBits ((6 : Nat) : Int) = [48, 48, 49, 49, 109, 109, 109, 109, 110, 110, 110, 110, 49, 49, 48, 48] := by decide +kernel
theorem run_6 (n m v : Int) (hn0 : 0 ≤ n) (hn1 : n < ((2 ^ wideN 6 : Nat) : Int)) (hm0 : 0 ≤ m) (hm1 : m < ((2 ^ wideM 6 : Nat) : Int)) : encRun (revBits ((6 : Nat) : Int)) n m v 0 1 = opBits ((6 : Nat) : Int) + n * 256 + m * 16 + v % ((2 ^ wideI 6 : Nat) : Int) := by
  rw [show wideN 6 = 4 from rfl] at hn1
  rw [show wideM 6 = 4 from rfl] at hm1
  rw [revBits_6, show wideI 6 = 0 from rfl, show opBits ((6 : Nat) : Int) = 12300 by decide +kernel]
  simp at hn1 hm1
  simp [encRun]
  omega

theorem revBits_7 : revBits ((7 : Nat) : Int) = [48, 48, 48, 49, 109, 109, 109, 109, 110, 110, 110, 110, 49, 49, 48, 48] := by decide +kernel
theorem run_7 (n m v : Int) (hn0 : 0 ≤ n) (hn1 : n < ((2 ^ wideN 7 : Nat) : Int)) (hm0 : 0 ≤ m) (hm1 : m < ((2 ^ wideM 7 : Nat) : Int)) : encRun (revBits ((7 : Nat) : Int)) n m v 0 1 = opBits ((7 : Nat) : Int) + n * 256 + m * 16 + v % ((2 ^ wideI 7 : Nat) : Int) := by
  rw [show wideN 7 = 4 from rfl] at hn1
  rw [show wideM 7 = 4 from rfl] at hm1
  rw [revBits_7, show wideI 7 = 0 from rfl, show opBits ((7 : Nat) : Int) = 12296 by decide +kernel]
  simp at hn1 hm1
  simp [encRun]
  omega

theorem revBits_8 : revBits ((8 : Nat) : Int) = [49, 48, 48, 49, 109, 109, 109, 109, 110, 110, 110, 110, 48, 49, 48, 48] := by decide +kernel
theorem run_8 (n m v : Int) (hn0 : 0 ≤ n) (hn1 : n < ((2 ^ wideN 8 : Nat) : Int)) (hm0 : 0 ≤ m) (hm1 : m < ((2 ^ wideM 8 : Nat) : Int)) : encRun (revBits ((8 : Nat) : Int)) n m v 0 1 = opBits ((8 : Nat) : Int) + n * 256 + m * 16 + v % ((2 ^ wideI 8 : Nat) : Int) := by
  rw [show wideN 8 = 4 from rfl] at hn1
  rw [show wideM 8 = 4 from rfl] at hm1
  rw [revBits_8, show wideI 8 = 0 from rfl, show opBits ((8 : Nat) : Int) = 8201 by decide +kernel]
  simp at hn1 hm1
  simp [encRun]
  omega

theorem revBits_9 : revBits ((9 : Nat) : Int) = [49, 49, 48, 49, 109, 109, 109, 109, 110, 110, 110, 110, 48, 49, 48, 48] := by decide +kernel
theorem run_9 (n m v : Int) (hn0 : 0 ≤ n) (hn1 : n < ((2 ^ wideN 9 : Nat) : Int)) (hm0 : 0 ≤ m) (hm1 : m < ((2 ^ wideM 9 : Nat) : Int)) : encRun (revBits ((9 : Nat) : Int)) n m v 0 1 = opBits ((9 : Nat) : Int) + n * 256 + m * 16 + v % ((2 ^ wideI 9 : Nat) : Int) := by
  rw [show wideN 9 = 4 from rfl] at hn1
  rw [show wideM 9 = 4 from rfl] at hm1
  rw [revBits_9, show wideI 9 = 0 from rfl, show opBits ((9 : Nat) : Int) = 8203 by decide +kernel]
  simp at hn1 hm1
  simp [encRun]
  omega

theorem revBits_10 : revBits ((10 : Nat) : Int) = [48, 49, 48, 49, 109, 109, 109, 109, 110, 110, 110, 110, 48, 49, 48, 48] := by decide +kernel
theorem run_10 (n m v : Int) (hn0 : 0 ≤ n) (hn1 : n < ((2 ^ wideN 10 : Nat) : Int)) (hm0 : 0 ≤ m) (hm1 : m < ((2 ^ wideM 10 : Nat) : Int)) : encRun (revBits ((10 : Nat) : Int)) n m v 0 1 = opBits ((10 : Nat) : Int) + n * 256 + m * 16 + v % ((2 ^ wideI 10 : Nat) : Int) := by
  rw [show wideN 10 = 4 from rfl] at hn1
  rw [show wideM 10 = 4 from rfl] at hm1
  rw [revBits_10, show wideI 10 = 0 from rfl, show opBits ((10 : Nat) : Int) = 8202 by decide +kernel]
  simp at hn1 hm1
  simp [encRun]
  omega

theorem revBits_11 : revBits ((11 : Nat) : Int) = [48, 48, 48, 49, 109, 109, 109, 109, 110, 110, 110, 110, 48, 49, 48, 48] := by decide +kernel
theorem run_11 (n m v : Int) (hn0 : 0 ≤ n) (hn1 : n < ((2 ^ wideN 11 : Nat) : Int)) (hm0 : 0 ≤ m) (hm1 : m < ((2 ^ wideM 11 : Nat) : Int)) : encRun (revBits ((11 : Nat) : Int)) n m v 0 1 = opBits ((11 : Nat) : Int) + n * 256 + m * 16 + v % ((2 ^ wideI 11 : Nat) : Int) := by
  rw [show wideN 11 = 4 from rfl] at hn1
  rw [show wideM 11 = 4 from rfl] at hm1
  rw [revBits_11, show wideI 11 = 0 from rfl, show opBits ((11 : Nat) : Int) = 8200 by decide +kernel]
  simp at hn1 hm1
  simp [encRun]
  omega

theorem revBits_12 : revBits ((12 : Nat) : Int) = [48, 48, 48, 48, 109, 109, 109, 109, 110, 110, 110, 110, 49, 49, 48, 48] := by decide +kernel
theorem run_12 (n m v : Int) (hn0 : 0 ≤ n) (hn1 : n < ((2 ^ wideN 12 : Nat) : Int)) (hm0 : 0 ≤ m) (hm1 : m < ((2 ^ wideM 12 : Nat) : Int)) : encRun (revBits ((12 : Nat) : Int)) n m v 0 1 = opBits ((12 : Nat) : Int) + n * 256 + m * 16 + v % ((2 ^ wideI 12 : Nat) : Int) := by
  rw [show wideN 12 = 4 from rfl] at hn1
  rw [show wideM 12 = 4 from rfl] at hm1
  rw [revBits_12, show wideI 12 = 0 from rfl, show opBits ((12 : Nat) : Int) = 12288 by decide +kernel]
  simp at hn1 hm1
  simp [encRun]
  omega

theorem revBits_13 : revBits ((13 : Nat) : Int) = [49, 49, 49, 48, 109, 109, 109, 109, 110, 110, 110, 110, 49, 49, 48, 48] := by decide +kernel
theorem run_13 (n m v : Int) (hn0 : 0 ≤ n) (hn1 : n < ((2 ^ wideN 13 : Nat) : Int)) (hm0 : 0 ≤ m) (hm1 : m < ((2 ^ wideM 13 : Nat) : Int)) : encRun (revBits ((13 : Nat) : Int)) n m v 0 1 = opBits ((13 : Nat) : Int) + n * 256 + m * 16 + v % ((2 ^ wideI 13 : Nat) : Int) := by
  rw [show wideN 13 = 4 from rfl] at hn1
  rw [show wideM 13 = 4 from rfl] at hm1
  rw [revBits_13, show wideI 13 = 0 from rfl, show opBits ((13 : Nat) : Int) = 12295 by decide +kernel]
  simp at hn1 hm1
  simp [encRun]
  omega

theorem revBits_14 : revBits ((14 : Nat) : Int) = [48, 48, 48, 48, 48, 48, 48, 48, 110, 110, 110, 110, 48, 48, 49, 48] := by decide +kernel
theorem run_14 (n m v : Int) (hn0 : 0 ≤ n) (hn1 : n < ((2 ^ wideN 14 : Nat) : Int)) (hm0 : 0 ≤ m) (hm1 : m < ((2 ^ wideM 14 : Nat) : Int)) : encRun (revBits ((14 : Nat) : Int)) n m v 0 1 = opBits ((14 : Nat) : Int) + n * 256 + m * 16 + v % ((2 ^ wideI 14 : Nat) : Int) := by
  rw [show wideN 14 = 4 from rfl] at hn1
  rw [show wideM 14 = 0 from rfl] at hm1
  rw [revBits_14, show wideI 14 = 0 from rfl, show opBits ((14 : Nat) : Int) = 16384 by decide +kernel]
  simp at hn1 hm1
  simp [encRun]
  omega

theorem revBits_15 : revBits ((15 : Nat) : Int) = [49, 48, 48, 48, 48, 48, 48, 48, 110, 110, 110, 110, 48, 48, 49, 48] := by decide +kernel
theorem run_15 (n m v : Int) (hn0 : 0 ≤ n) (hn1 : n < ((2 ^ wideN 15 : Nat) : Int)) (hm0 : 0 ≤ m) (hm1 : m < ((2 ^ wideM 15 : Nat) : Int)) : encRun (revBits ((15 : Nat) : Int)) n m v 0 1 = opBits ((15 : Nat) : Int) + n * 256 + m * 16 + v % ((2 ^ wideI 15 : Nat) : Int) := by
  rw [show wideN 15 = 4 from rfl] at hn1
  rw [show wideM 15 = 0 from rfl] at hm1
  rw [revBits_15, show wideI 15 = 0 from rfl, show opBits ((15 : Nat) : Int) = 16385 by decide +kernel]
  simp at hn1 hm1
  simp [encRun]
  omega

theorem revBits_16 : revBits ((16 : Nat) : Int) = [48, 48, 48, 48, 49, 48, 48, 48, 110, 110, 110, 110, 48, 48, 49, 48] := by decide +kernel
theorem run_16 (n m v : Int) (hn0 : 0 ≤ n) (hn1 : n < ((2 ^ wideN 16 : Nat) : Int)) (hm0 : 0 ≤ m) (hm1 : m < ((2 ^ wideM 16 : Nat) : Int)) : encRun (revBits ((16 : Nat) : Int)) n m v 0 1 = opBits ((16 : Nat) : Int) + n * 256 + m * 16 + v % ((2 ^ wideI 16 : Nat) : Int) := by
  rw [show wideN 16 = 4 from rfl] at hn1
  rw [show wideM 16 = 0 from rfl] at hm1
  rw [revBits_16, show wideI 16 = 0 from rfl, show opBits ((16 : Nat) : Int) = 16400 by decide +kernel]
  simp at hn1 hm1
  simp [encRun]
  omega

theorem revBits_17 : revBits ((17 : Nat) : Int) = [105, 105, 105, 105, 105, 105, 105, 105, 49, 48, 48, 49, 48, 48, 48, 49] := by decide +kernel
theorem run_17 (n m v : Int) (hn0 : 0 ≤ n) (hn1 : n < ((2 ^ wideN 17 : Nat) : Int)) (hm0 : 0 ≤ m) (hm1 : m < ((2 ^ wideM 17 : Nat) : Int)) : encRun (revBits ((17 : Nat) : Int)) n m v 0 1 = opBits ((17 : Nat) : Int) + n * 256 + m * 16 + v % ((2 ^ wideI 17 : Nat) : Int) := by
  rw [show wideN 17 = 0 from rfl] at hn1
  rw [show wideM 17 = 0 from rfl] at hm1
  rw [revBits_17, show wideI 17 = 8 from rfl, show opBits ((17 : Nat) : Int) = 35072 by decide +kernel]
  simp at hn1 hm1
  simp [encRun]
  omega

theorem revBits_18 : revBits ((18 : Nat) : Int) = [105, 105, 105, 105, 105, 105, 105, 105, 49, 49, 48, 49, 48, 48, 48, 49] := by decide +kernel
theorem run_18 (n m v : Int) (hn0 : 0 ≤ n) (hn1 : n < ((2 ^ wideN 18 : Nat) : Int)) (hm0 : 0 ≤ m) (hm1 : m < ((2 ^ wideM 18 : Nat) : Int)) : encRun (revBits ((18 : Nat) : Int)) n m v 0 1 = opBits ((18 : Nat) : Int) + n * 256 + m * 16 + v % ((2 ^ wideI 18 : Nat) : Int) := by
  rw [show wideN 18 = 0 from rfl] at hn1
  rw [show wideM 18 = 0 from rfl] at hm1
  rw [revBits_18, show wideI 18 = 8 from rfl, show opBits ((18 : Nat) : Int) = 35584 by decide +kernel]
  simp at hn1 hm1
  simp [encRun]
  omega

theorem revBits_19 : revBits ((19 : Nat) : Int) = [105, 105, 105, 105, 105, 105, 105, 105, 105, 105, 105, 105, 48, 49, 48, 49] := by decide +kernel
theorem run_19 (n m v : Int) (hn0 : 0 ≤ n) (hn1 : n < ((2 ^ wideN 19 : Nat) : Int)) (hm0 : 0 ≤ m) (hm1 : m < ((2 ^ wideM 19 : Nat) : Int)) : encRun (revBits ((19 : Nat) : Int)) n m v 0 1 = opBits ((19 : Nat) : Int) + n * 256 + m * 16 + v % ((2 ^ wideI 19 : Nat) : Int) := by
  rw [show wideN 19 = 0 from rfl] at hn1
  rw [show wideM 19 = 0 from rfl] at hm1
  rw [revBits_19, show wideI 19 = 12 from rfl, show opBits ((19 : Nat) : Int) = 40960 by decide +kernel]
  simp at hn1 hm1
  simp [encRun]
  omega

theorem revBits_20 : revBits ((20 : Nat) : Int) = [105, 105, 105, 105, 105, 105, 105, 105, 105, 105, 105, 105, 49, 49, 48, 49] := by decide +kernel
theorem run_20 (n m v : Int) (hn0 : 0 ≤ n) (hn1 : n < ((2 ^ wideN 20 : Nat) : Int)) (hm0 : 0 ≤ m) (hm1 : m < ((2 ^ wideM 20 : Nat) : Int)) : encRun (revBits ((20 : Nat) : Int)) n m v 0 1 = opBits ((20 : Nat) : Int) + n * 256 + m * 16 + v % ((2 ^ wideI 20 : Nat) : Int) := by
  rw [show wideN 20 = 0 from rfl] at hn1
  rw [show wideM 20 = 0 from rfl] at hm1
  rw [revBits_20, show wideI 20 = 12 from rfl, show opBits ((20 : Nat) : Int) = 45056 by decide +kernel]
  simp at hn1 hm1
  simp [encRun]
  omega

theorem revBits_21 : revBits ((21 : Nat) : Int) = [49, 49, 48, 49, 48, 49, 48, 48, 110, 110, 110, 110, 48, 48, 49, 48] := by decide +kernel
theorem run_21 (n m v : Int) (hn0 : 0 ≤ n) (hn1 : n < ((2 ^ wideN 21 : Nat) : Int)) (hm0 : 0 ≤ m) (hm1 : m < ((2 ^ wideM 21 : Nat) : Int)) : encRun (revBits ((21 : Nat) : Int)) n m v 0 1 = opBits ((21 : Nat) : Int) + n * 256 + m * 16 + v % ((2 ^ wideI 21 : Nat) : Int) := by
  rw [show wideN 21 = 4 from rfl] at hn1
  rw [show wideM 21 = 0 from rfl] at hm1
  rw [revBits_21, show wideI 21 = 0 from rfl, show opBits ((21 : Nat) : Int) = 16427 by decide +kernel]
  simp at hn1 hm1
  simp [encRun]
  omega

theorem revBits_22 : revBits ((22 : Nat) : Int) = [49, 49, 48, 49, 48, 48, 48, 48, 110, 110, 110, 110, 48, 48, 49, 48] := by decide +kernel
theorem run_22 (n m v : Int) (hn0 : 0 ≤ n) (hn1 : n < ((2 ^ wideN 22 : Nat) : Int)) (hm0 : 0 ≤ m) (hm1 : m < ((2 ^ wideM 22 : Nat) : Int)) : encRun (revBits ((22 : Nat) : Int)) n m v 0 1 = opBits ((22 : Nat) : Int) + n * 256 + m * 16 + v % ((2 ^ wideI 22 : Nat) : Int) := by
  rw [show wideN 22 = 4 from rfl] at hn1
  rw [show wideM 22 = 0 from rfl] at hm1
  rw [revBits_22, show wideI 22 = 0 from rfl, show opBits ((22 : Nat) : Int) = 16395 by decide +kernel]
  simp at hn1 hm1
  simp [encRun]
  omega

theorem revBits_23 : revBits ((23 : Nat) : Int) = [105, 105, 105, 105, 105, 105, 105, 105, 110, 110, 110, 110, 49, 48, 48, 49] := by decide +kernel
theorem run_23 (n m v : Int) (hn0 : 0 ≤ n) (hn1 : n < ((2 ^ wideN 23 : Nat) : Int)) (hm0 : 0 ≤ m) (hm1 : m < ((2 ^ wideM 23 : Nat) : Int)) : encRun (revBits ((23 : Nat) : Int)) n m v 0 1 = opBits ((23 : Nat) : Int) + n * 256 + m * 16 + v % ((2 ^ wideI 23 : Nat) : Int) := by
  rw [show wideN 23 = 4 from rfl] at hn1
  rw [show wideM 23 = 0 from rfl] at hm1
  rw [revBits_23, show wideI 23 = 8 from rfl, show opBits ((23 : Nat) : Int) = 36864 by decide +kernel]
  simp at hn1 hm1
  simp [encRun]
  omega

theorem revBits_24 : revBits ((24 : Nat) : Int) = [105, 105, 105, 105, 105, 105, 105, 105, 110, 110, 110, 110, 49, 48, 49, 49] := by decide +kernel
theorem run_24 (n m v : Int) (hn0 : 0 ≤ n) (hn1 : n < ((2 ^ wideN 24 : Nat) : Int)) (hm0 : 0 ≤ m) (hm1 : m < ((2 ^ wideM 24 : Nat) : Int)) : encRun (revBits ((24 : Nat) : Int)) n m v 0 1 = opBits ((24 : Nat) : Int) + n * 256 + m * 16 + v % ((2 ^ wideI 24 : Nat) : Int) := by
  rw [show wideN 24 = 4 from rfl] at hn1
  rw [show wideM 24 = 0 from rfl] at hm1
  rw [revBits_24, show wideI 24 = 8 from rfl, show opBits ((24 : Nat) : Int) = 53248 by decide +kernel]
  simp at hn1 hm1
  simp [encRun]
  omega

theorem revBits_25 : revBits ((25 : Nat) : Int) = [48, 49, 48, 48, 109, 109, 109, 109, 110, 110, 110, 110, 48, 49, 48, 48] := by decide +kernel
theorem run_25 (n m v : Int) (hn0 : 0 ≤ n) (hn1 : n < ((2 ^ wideN 25 : Nat) : Int)) (hm0 : 0 ≤ m) (hm1 : m < ((2 ^ wideM 25 : Nat) : Int)) : encRun (revBits ((25 : Nat) : Int)) n m v 0 1 = opBits ((25 : Nat) : Int) + n * 256 + m * 16 + v % ((2 ^ wideI 25 : Nat) : Int) := by
  rw [show wideN 25 = 4 from rfl] at hn1
  rw [show wideM 25 = 4 from rfl] at hm1
  rw [revBits_25, show wideI 25 = 0 from rfl, show opBits ((25 : Nat) : Int) = 8194 by decide +kernel]
  simp at hn1 hm1
  simp [encRun]
  omega

theorem revBits_26 : revBits ((26 : Nat) : Int) = [48, 49, 48, 48, 109, 109, 109, 109, 110, 110, 110, 110, 48, 49, 49, 48] := by decide +kernel
theorem run_26 (n m v : Int) (hn0 : 0 ≤ n) (hn1 : n < ((2 ^ wideN 26 : Nat) : Int)) (hm0 : 0 ≤ m) (hm1 : m < ((2 ^ wideM 26 : Nat) : Int)) : encRun (revBits ((26 : Nat) : Int)) n m v 0 1 = opBits ((26 : Nat) : Int) + n * 256 + m * 16 + v % ((2 ^ wideI 26 : Nat) : Int) := by
  rw [show wideN 26 = 4 from rfl] at hn1
  rw [show wideM 26 = 4 from rfl] at hm1
  rw [revBits_26, show wideI 26 = 0 from rfl, show opBits ((26 : Nat) : Int) = 24578 by decide +kernel]
  simp at hn1 hm1
  simp [encRun]
  omega

theorem revBits_27 : revBits ((27 : Nat) : Int) = [105, 105, 105, 105, 105, 105, 105, 105, 49, 49, 48, 48, 48, 48, 49, 49] := by decide +kernel
theorem run_27 (n m v : Int) (hn0 : 0 ≤ n) (hn1 : n < ((2 ^ wideN 27 : Nat) : Int)) (hm0 : 0 ≤ m) (hm1 : m < ((2 ^ wideM 27 : Nat) : Int)) : encRun (revBits ((27 : Nat) : Int)) n m v 0 1 = opBits ((27 : Nat) : Int) + n * 256 + m * 16 + v % ((2 ^ wideI 27 : Nat) : Int) := by
  rw [show wideN 27 = 0 from rfl] at hn1
  rw [show wideM 27 = 0 from rfl] at hm1
  rw [revBits_27, show wideI 27 = 8 from rfl, show opBits ((27 : Nat) : Int) = 49920 by decide +kernel]
  simp at hn1 hm1
  simp [encRun]
  omega

theorem run_all (k : Nat) (h1 : 1 ≤ k) (h2 : k < 28) (n m v : Int) (hn0 : 0 ≤ n) (hn1 : n < ((2 ^ wideN k : Nat) : Int)) (hm0 : 0 ≤ m) (hm1 : m < ((2 ^ wideM k : Nat) : Int)) : encRun (revBits (k : Int)) n m v 0 1 = opBits (k : Int) + n * 256 + m * 16 + v % ((2 ^ wideI k : Nat) : Int) := by
  have h : k = 1 ∨ k = 2 ∨ k = 3 ∨ k = 4 ∨ k = 5 ∨ k = 6 ∨ k = 7 ∨ k = 8 ∨ k = 9 ∨ k = 10 ∨ k = 11 ∨ k = 12 ∨ k = 13 ∨ k = 14 ∨ k = 15 ∨ k = 16 ∨ k = 17 ∨ k = 18 ∨ k = 19 ∨ k = 20 ∨ k = 21 ∨ k = 22 ∨ k = 23 ∨ k = 24 ∨ k = 25 ∨ k = 26 ∨ k = 27 := by omega
  rcases h with rfl | rfl | rfl | rfl | rfl | rfl | rfl | rfl | rfl | rfl | rfl | rfl | rfl | rfl | rfl | rfl | rfl | rfl | rfl | rfl | rfl | rfl | rfl | rfl | rfl | rfl | rfl
  · exact run_1 n m v hn0 hn1 hm0 hm1
  · exact run_2 n m v hn0 hn1 hm0 hm1
  · exact run_3 n m v hn0 hn1 hm0 hm1
  · exact run_4 n m v hn0 hn1 hm0 hm1
  · exact run_5 n m v hn0 hn1 hm0 hm1
  · exact run_6 n m v hn0 hn1 hm0 hm1
  · exact run_7 n m v hn0 hn1 hm0 hm1
  · exact run_8 n m v hn0 hn1 hm0 hm1
  · exact run_9 n m v hn0 hn1 hm0 hm1
  · exact run_10 n m v hn0 hn1 hm0 hm1
  · exact run_11 n m v hn0 hn1 hm0 hm1
  · exact run_12 n m v hn0 hn1 hm0 hm1
  · exact run_13 n m v hn0 hn1 hm0 hm1
  · exact run_14 n m v hn0 hn1 hm0 hm1
  · exact run_15 n m v hn0 hn1 hm0 hm1
  · exact run_16 n m v hn0 hn1 hm0 hm1
  · exact run_17 n m v hn0 hn1 hm0 hm1
  · exact run_18 n m v hn0 hn1 hm0 hm1
  · exact run_19 n m v hn0 hn1 hm0 hm1
  · exact run_20 n m v hn0 hn1 hm0 hm1
  · exact run_21 n m v hn0 hn1 hm0 hm1
  · exact run_22 n m v hn0 hn1 hm0 hm1
  · exact run_23 n m v hn0 hn1 hm0 hm1
  · exact run_24 n m v hn0 hn1 hm0 hm1
  · exact run_25 n m v hn0 hn1 hm0 hm1
  · exact run_26 n m v hn0 hn1 hm0 hm1
  · exact run_27 n m v hn0 hn1 hm0 hm1

/-- The document's half word is the program's. -/
theorem rEnc_eq {op n m imm : Int} (h : wrongI op n m imm = 0) : encRun (revBits op) n m imm 0 1 = encI op n m imm := by
  obtain ⟨h1, h2, h3, h4, h5, h6, h7, h8⟩ := wrongI_zero h
  obtain ⟨k, rfl⟩ := Int.eq_ofNat_of_zero_le (show 0 ≤ op by omega)
  obtain ⟨a, rfl⟩ := Int.eq_ofNat_of_zero_le h3
  obtain ⟨b, rfl⟩ := Int.eq_ofNat_of_zero_le h5
  have hk : k < 28 := by omega
  obtain ⟨e1, e2, e3, w1, w2, w3, l0, l1, b0, b1⟩ := row_facts k hk
  have pN := Nat.two_pow_pos (wideN k)
  have pM := Nat.two_pow_pos (wideM k)
  have pI := Nat.two_pow_pos (wideI k)
  have qN : 2 ^ wideN k ≤ 16 := by rcases w1 with h | h <;> rw [h] <;> decide
  have qM : 2 ^ wideM k ≤ 16 := by rcases w2 with h | h <;> rw [h] <;> decide
  have hi0 := Int.emod_nonneg imm (show ((2 ^ wideI k : Nat) : Int) ≠ 0 by omega)
  have hi1 := Int.emod_lt_of_pos imm (show (0 : Int) < ((2 ^ wideI k : Nat) : Int) by omega)
  rw [run_all k (by omega) hk a b imm (by omega) (by omega) (by omega) (by omega), encI_nat k a b imm hk (by omega) (by omega), encN_add k a b _ hk (by omega) (by omega) (by omega) (by omega)]
  omega

theorem refBits_16 (k : Int) (h0 : 1 ≤ k) (h1 : k ≤ 27) : (refBits k).size = 16 := by
  obtain ⟨j, rfl⟩ := Int.eq_ofNat_of_zero_le (show 0 ≤ k by omega)
  have : ∀ i : Fin 28, i.val ≠ 0 → (refBits (i.val : Int)).size = 16 := by decide +kernel
  exact this ⟨j, by omega⟩ (by show j ≠ 0; omega)

theorem rEnc_any (op n m imm : Int) (w : World) :
    Calls Tryd.prog 16 #[.agg #[.int .i64 op, .int .i64 n, .int .i64 m, .int .i64 imm]] w fun e w' => e = .returned (.tuple #[.int .i64 (encW op n m imm), .int .i64 (wrongI op n m imm)]) ∧ Below w.heap.size w w' := by
  by_cases h : wrongI op n m imm = 0
  · obtain ⟨h1, h2, _⟩ := wrongI_zero h
    have e1 : encW op n m imm = encRun (revBits op) n m imm 0 1 := by rw [rEnc_eq h]; simp [encW, h]
    rw [e1, h]
    exact rEnc_ok op n m imm w h (refBits_16 op h1 h2)
  · have e1 : encW op n m imm = 0 := by simp [encW, h]
    rw [e1]
    exact rEnc_wrong op n m imm w (by simpa using h)

end Go.Proofs.YtnloooiimpdabaaDoor
