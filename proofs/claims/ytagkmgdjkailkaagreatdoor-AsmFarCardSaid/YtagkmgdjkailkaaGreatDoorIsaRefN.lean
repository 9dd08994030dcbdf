/- The document's Decode reads the same instruction: the plain mathematics. -/
import Derived.Test.YtagkmgdjkailkaaGreatDoorPut9
namespace Go.Proofs.YtagkmgdjkailkaaGreatDoor.Isa
open Go.RowKit

/-- Fits, the registers, the number, and how wide it is. -/
structure DecSt where
  f : Bool
  n : Int
  m : Int
  i : Int
  d : Int

/-- Bit by bit from the uppermost one on. -/
def decRun (x : Int) : List UInt8 → Nat → DecSt → DecSt
  | [], _, s => s
  | c :: cs, k, s =>
    if c = 48 then decRun x cs (k + 1) { s with f := s.f && (x / 2 ^ (15 - k) % 2 == 0) }
    else if c = 49 then decRun x cs (k + 1) { s with f := s.f && (x / 2 ^ (15 - k) % 2 == 1) }
    else if c = 110 then decRun x cs (k + 1) { s with n := 2 * s.n + x / 2 ^ (15 - k) % 2 }
    else if c = 109 then decRun x cs (k + 1) { s with m := 2 * s.m + x / 2 ^ (15 - k) % 2 }
    else decRun x cs (k + 1) { s with i := 2 * s.i + x / 2 ^ (15 - k) % 2, d := s.d + 1 }

def dec0 : DecSt := ⟨true, 0, 0, 0, 0⟩
def txtBits (k : Int) : List UInt8 := (refBits k).data.toList

theorem land16 (x c : Nat) : Nat.land x c = Nat.land (x % 16) (c % 16) + 16 * Nat.land (x / 16) (c / 16) := by
  have h1 : Nat.land x c % 2 ^ 4 = Nat.land (x % 2 ^ 4) (c % 2 ^ 4) := Nat.and_mod_two_pow
  have h2 : Nat.land x c >>> 4 = Nat.land (x >>> 4) (c >>> 4) := Nat.shiftRight_and_distrib
  rw [Nat.shiftRight_eq_div_pow, Nat.shiftRight_eq_div_pow, Nat.shiftRight_eq_div_pow] at h2
  simp only [show (2 : Nat) ^ 4 = 16 from rfl] at h1 h2
  omega

theorem land_15 (y : Nat) : Nat.land (y % 16) 15 = y % 16 := by
  have : Nat.land (y % 16) (2 ^ 4 - 1) = y % 16 % 2 ^ 4 := Nat.and_two_pow_sub_one_eq_mod _ _
  simpa using this
theorem land_0 (y : Nat) : Nat.land y 0 = 0 := Nat.and_zero _
theorem zero_land (y : Nat) : Nat.land 0 y = 0 := Nat.zero_and _

theorem dr48 (x : Int) (cs : List UInt8) (k : Nat) (f : Bool) (n m i d : Int) : decRun x (48 :: cs) k ⟨f, n, m, i, d⟩ = decRun x cs (k + 1) ⟨f && (x / 2 ^ (15 - k) % 2 == 0), n, m, i, d⟩ := rfl
theorem dr49 (x : Int) (cs : List UInt8) (k : Nat) (f : Bool) (n m i d : Int) : decRun x (49 :: cs) k ⟨f, n, m, i, d⟩ = decRun x cs (k + 1) ⟨f && (x / 2 ^ (15 - k) % 2 == 1), n, m, i, d⟩ := rfl
theorem dr110 (x : Int) (cs : List UInt8) (k : Nat) (f : Bool) (n m i d : Int) : decRun x (110 :: cs) k ⟨f, n, m, i, d⟩ = decRun x cs (k + 1) ⟨f, 2 * n + x / 2 ^ (15 - k) % 2, m, i, d⟩ := rfl
theorem dr109 (x : Int) (cs : List UInt8) (k : Nat) (f : Bool) (n m i d : Int) : decRun x (109 :: cs) k ⟨f, n, m, i, d⟩ = decRun x cs (k + 1) ⟨f, n, 2 * m + x / 2 ^ (15 - k) % 2, i, d⟩ := rfl
theorem dr105 (x : Int) (cs : List UInt8) (k : Nat) (f : Bool) (n m i d : Int) : decRun x (105 :: cs) k ⟨f, n, m, i, d⟩ = decRun x cs (k + 1) ⟨f, n, m, 2 * i + x / 2 ^ (15 - k) % 2, d + 1⟩ := rfl
theorem drNil (x : Int) (k : Nat) (s : DecSt) : decRun x [] k s = s := rfl

theorem nib0 (x : Nat) (b3 b2 b1 b0 : Int) (_h3 : b3 = 0 ∨ b3 = 1) (h2 : b2 = 0 ∨ b2 = 1) (h1 : b1 = 0 ∨ b1 = 1) (h0 : b0 = 0 ∨ b0 = 1) : ((x : Int) / 8 % 2 = b3 ∧ (x : Int) / 4 % 2 = b2 ∧ (x : Int) / 2 % 2 = b1 ∧ (x : Int) / 1 % 2 = b0) ↔ ((x % 16 : Nat) : Int) = 8 * b3 + 4 * b2 + 2 * b1 + b0 := by
  omega
theorem nib1 (x : Nat) (b3 b2 b1 b0 : Int) (_h3 : b3 = 0 ∨ b3 = 1) (h2 : b2 = 0 ∨ b2 = 1) (h1 : b1 = 0 ∨ b1 = 1) (h0 : b0 = 0 ∨ b0 = 1) : ((x : Int) / 128 % 2 = b3 ∧ (x : Int) / 64 % 2 = b2 ∧ (x : Int) / 32 % 2 = b1 ∧ (x : Int) / 16 % 2 = b0) ↔ ((x / 16 % 16 : Nat) : Int) = 8 * b3 + 4 * b2 + 2 * b1 + b0 := by
  omega
theorem nib2 (x : Nat) (b3 b2 b1 b0 : Int) (_h3 : b3 = 0 ∨ b3 = 1) (h2 : b2 = 0 ∨ b2 = 1) (h1 : b1 = 0 ∨ b1 = 1) (h0 : b0 = 0 ∨ b0 = 1) : ((x : Int) / 2048 % 2 = b3 ∧ (x : Int) / 1024 % 2 = b2 ∧ (x : Int) / 512 % 2 = b1 ∧ (x : Int) / 256 % 2 = b0) ↔ ((x / 256 % 16 : Nat) : Int) = 8 * b3 + 4 * b2 + 2 * b1 + b0 := by
  omega
theorem nib3 (x : Nat) (b3 b2 b1 b0 : Int) (_h3 : b3 = 0 ∨ b3 = 1) (h2 : b2 = 0 ∨ b2 = 1) (h1 : b1 = 0 ∨ b1 = 1) (h0 : b0 = 0 ∨ b0 = 1) : ((x : Int) / 32768 % 2 = b3 ∧ (x : Int) / 16384 % 2 = b2 ∧ (x : Int) / 8192 % 2 = b1 ∧ (x : Int) / 4096 % 2 = b0) ↔ ((x / 4096 % 16 : Nat) : Int) = 8 * b3 + 4 * b2 + 2 * b1 + b0 := by
  omega
theorem txt_1 : txtBits ((1 : Nat) : Int) = [48, 48, 48, 48, 48, 48, 48, 48, 48, 48, 48, 48, 49, 48, 48, 49] := by decide +kernel
theorem landx_1 (x : Nat) (hx : x < 65536) : Nat.land x 18446744073709551615 = x % 16 + 16 * (x / 16 % 16) + 256 * (x / 256 % 16) + 4096 * (x / 4096 % 16) := by
  rw [land16 x, land16 (x / 16), land16 (x / 16 / 16), land16 (x / 16 / 16 / 16), show x / 16 / 16 / 16 / 16 = 0 by omega, zero_land]
  simp only [Nat.reduceMod, Nat.reduceDiv, land_15]
  omega
theorem dr_1 (x : Nat) (hx : x < 65536) : decRun (x : Int) (txtBits ((1 : Nat) : Int)) 0 dec0 = ⟨decHit (x : Int) ((1 : Nat) : Int), 0, 0, 0, 0⟩ := by
  rw [txt_1, hit_nat x 1 0 9 hx (by decide +kernel) (by decide +kernel) (by decide +kernel) (by decide), show 18446744073709551615 - 0 = 18446744073709551615 from rfl, landx_1 x hx]
  unfold dec0
  repeat (first | rw [dr48] | rw [dr49] | rw [dr110] | rw [dr109] | rw [dr105])
  rw [drNil, DecSt.mk.injEq]
  refine ⟨?_, ?_, ?_, ?_, ?_⟩
  · rw [Bool.eq_iff_iff, Nat.beq_eq]
    simp only [Bool.and_eq_true, beq_iff_eq, true_and, Nat.reduceAdd, Nat.reduceSub, Int.reducePow]
    constructor
    · rintro ⟨⟨⟨⟨⟨⟨⟨⟨⟨⟨⟨⟨⟨⟨⟨h15, h14⟩, h13⟩, h12⟩, h11⟩, h10⟩, h9⟩, h8⟩, h7⟩, h6⟩, h5⟩, h4⟩, h3⟩, h2⟩, h1⟩, h0⟩
      have n3 := (nib3 x 0 0 0 0 (by simp) (by simp) (by simp) (by simp)).1 ⟨h15, h14, h13, h12⟩
      have n2 := (nib2 x 0 0 0 0 (by simp) (by simp) (by simp) (by simp)).1 ⟨h11, h10, h9, h8⟩
      have n1 := (nib1 x 0 0 0 0 (by simp) (by simp) (by simp) (by simp)).1 ⟨h7, h6, h5, h4⟩
      have n0 := (nib0 x 1 0 0 1 (by simp) (by simp) (by simp) (by simp)).1 ⟨h3, h2, h1, h0⟩
      clear h15 h14 h13 h12 h11 h10 h9 h8 h7 h6 h5 h4 h3 h2 h1 h0
      omega
    · intro h
      obtain ⟨h15, h14, h13, h12⟩ := (nib3 x 0 0 0 0 (by simp) (by simp) (by simp) (by simp)).2 (by omega)
      obtain ⟨h11, h10, h9, h8⟩ := (nib2 x 0 0 0 0 (by simp) (by simp) (by simp) (by simp)).2 (by omega)
      obtain ⟨h7, h6, h5, h4⟩ := (nib1 x 0 0 0 0 (by simp) (by simp) (by simp) (by simp)).2 (by omega)
      obtain ⟨h3, h2, h1, h0⟩ := (nib0 x 1 0 0 1 (by simp) (by simp) (by simp) (by simp)).2 (by omega)
      exact ⟨⟨⟨⟨⟨⟨⟨⟨⟨⟨⟨⟨⟨⟨⟨h15, h14⟩, h13⟩, h12⟩, h11⟩, h10⟩, h9⟩, h8⟩, h7⟩, h6⟩, h5⟩, h4⟩, h3⟩, h2⟩, h1⟩, h0⟩
  all_goals (simp; try omega)

theorem txt_2 : txtBits ((2 : Nat) : Int) = [48, 48, 48, 48, 48, 48, 48, 48, 48, 48, 48, 48, 49, 48, 49, 49] := by decide +kernel
theorem landx_2 (x : Nat) (hx : x < 65536) : Nat.land x 18446744073709551615 = x % 16 + 16 * (x / 16 % 16) + 256 * (x / 256 % 16) + 4096 * (x / 4096 % 16) := by
  rw [land16 x, land16 (x / 16), land16 (x / 16 / 16), land16 (x / 16 / 16 / 16), show x / 16 / 16 / 16 / 16 = 0 by omega, zero_land]
  simp only [Nat.reduceMod, Nat.reduceDiv, land_15]
  omega
theorem dr_2 (x : Nat) (hx : x < 65536) : decRun (x : Int) (txtBits ((2 : Nat) : Int)) 0 dec0 = ⟨decHit (x : Int) ((2 : Nat) : Int), 0, 0, 0, 0⟩ := by
  rw [txt_2, hit_nat x 2 0 11 hx (by decide +kernel) (by decide +kernel) (by decide +kernel) (by decide), show 18446744073709551615 - 0 = 18446744073709551615 from rfl, landx_2 x hx]
  unfold dec0
  repeat (first | rw [dr48] | rw [dr49] | rw [dr110] | rw [dr109] | rw [dr105])
  rw [drNil, DecSt.mk.injEq]
  refine ⟨?_, ?_, ?_, ?_, ?_⟩
  · rw [Bool.eq_iff_iff, Nat.beq_eq]
    simp only [Bool.and_eq_true, beq_iff_eq, true_and, Nat.reduceAdd, Nat.reduceSub, Int.reducePow]
    constructor
    · rintro ⟨⟨⟨⟨⟨⟨⟨⟨⟨⟨⟨⟨⟨⟨⟨h15, h14⟩, h13⟩, h12⟩, h11⟩, h10⟩, h9⟩, h8⟩, h7⟩, h6⟩, h5⟩, h4⟩, h3⟩, h2⟩, h1⟩, h0⟩
      have n3 := (nib3 x 0 0 0 0 (by simp) (by simp) (by simp) (by simp)).1 ⟨h15, h14, h13, h12⟩
      have n2 := (nib2 x 0 0 0 0 (by simp) (by simp) (by simp) (by simp)).1 ⟨h11, h10, h9, h8⟩
      have n1 := (nib1 x 0 0 0 0 (by simp) (by simp) (by simp) (by simp)).1 ⟨h7, h6, h5, h4⟩
      have n0 := (nib0 x 1 0 1 1 (by simp) (by simp) (by simp) (by simp)).1 ⟨h3, h2, h1, h0⟩
      clear h15 h14 h13 h12 h11 h10 h9 h8 h7 h6 h5 h4 h3 h2 h1 h0
      omega
    · intro h
      obtain ⟨h15, h14, h13, h12⟩ := (nib3 x 0 0 0 0 (by simp) (by simp) (by simp) (by simp)).2 (by omega)
      obtain ⟨h11, h10, h9, h8⟩ := (nib2 x 0 0 0 0 (by simp) (by simp) (by simp) (by simp)).2 (by omega)
      obtain ⟨h7, h6, h5, h4⟩ := (nib1 x 0 0 0 0 (by simp) (by simp) (by simp) (by simp)).2 (by omega)
      obtain ⟨h3, h2, h1, h0⟩ := (nib0 x 1 0 1 1 (by simp) (by simp) (by simp) (by simp)).2 (by omega)
      exact ⟨⟨⟨⟨⟨⟨⟨⟨⟨⟨⟨⟨⟨⟨⟨h15, h14⟩, h13⟩, h12⟩, h11⟩, h10⟩, h9⟩, h8⟩, h7⟩, h6⟩, h5⟩, h4⟩, h3⟩, h2⟩, h1⟩, h0⟩
  all_goals (simp; try omega)

theorem txt_3 : txtBits ((3 : Nat) : Int) = [49, 49, 49, 48, 110, 110, 110, 110, 105, 105, 105, 105, 105, 105, 105, 105] := by decide +kernel
theorem landx_3 (x : Nat) (hx : x < 65536) : Nat.land x 18446744073709547520 = 0 + 0 + 0 + 4096 * (x / 4096 % 16) := by
  rw [land16 x, land16 (x / 16), land16 (x / 16 / 16), land16 (x / 16 / 16 / 16), show x / 16 / 16 / 16 / 16 = 0 by omega, zero_land]
  simp only [Nat.reduceMod, Nat.reduceDiv, land_15, land_0]
  omega
theorem dr_3 (x : Nat) (hx : x < 65536) : decRun (x : Int) (txtBits ((3 : Nat) : Int)) 0 dec0 = ⟨decHit (x : Int) ((3 : Nat) : Int), (x / 256 % 16 : Nat), 0, (x % 256 : Nat), 8⟩ := by
  rw [txt_3, hit_nat x 3 4095 57344 hx (by decide +kernel) (by decide +kernel) (by decide +kernel) (by decide), show 18446744073709551615 - 4095 = 18446744073709547520 from rfl, landx_3 x hx]
  unfold dec0
  repeat (first | rw [dr48] | rw [dr49] | rw [dr110] | rw [dr109] | rw [dr105])
  rw [drNil, DecSt.mk.injEq]
  refine ⟨?_, ?_, ?_, ?_, ?_⟩
  · rw [Bool.eq_iff_iff, Nat.beq_eq]
    simp only [Bool.and_eq_true, beq_iff_eq, true_and, Nat.reduceAdd, Nat.reduceSub, Int.reducePow]
    constructor
    · rintro ⟨⟨⟨h15, h14⟩, h13⟩, h12⟩
      have n3 := (nib3 x 1 1 1 0 (by simp) (by simp) (by simp) (by simp)).1 ⟨h15, h14, h13, h12⟩
      clear h15 h14 h13 h12
      omega
    · intro h
      obtain ⟨h15, h14, h13, h12⟩ := (nib3 x 1 1 1 0 (by simp) (by simp) (by simp) (by simp)).2 (by omega)
      exact ⟨⟨⟨h15, h14⟩, h13⟩, h12⟩
  all_goals (simp; try omega)

theorem txt_4 : txtBits ((4 : Nat) : Int) = [48, 49, 49, 49, 110, 110, 110, 110, 105, 105, 105, 105, 105, 105, 105, 105] := by decide +kernel
theorem landx_4 (x : Nat) (hx : x < 65536) : Nat.land x 18446744073709547520 = 0 + 0 + 0 + 4096 * (x / 4096 % 16) := by
  rw [land16 x, land16 (x / 16), land16 (x / 16 / 16), land16 (x / 16 / 16 / 16), show x / 16 / 16 / 16 / 16 = 0 by omega, zero_land]
  simp only [Nat.reduceMod, Nat.reduceDiv, land_15, land_0]
  omega
theorem dr_4 (x : Nat) (hx : x < 65536) : decRun (x : Int) (txtBits ((4 : Nat) : Int)) 0 dec0 = ⟨decHit (x : Int) ((4 : Nat) : Int), (x / 256 % 16 : Nat), 0, (x % 256 : Nat), 8⟩ := by
  rw [txt_4, hit_nat x 4 4095 28672 hx (by decide +kernel) (by decide +kernel) (by decide +kernel) (by decide), show 18446744073709551615 - 4095 = 18446744073709547520 from rfl, landx_4 x hx]
  unfold dec0
  repeat (first | rw [dr48] | rw [dr49] | rw [dr110] | rw [dr109] | rw [dr105])
  rw [drNil, DecSt.mk.injEq]
  refine ⟨?_, ?_, ?_, ?_, ?_⟩
  · rw [Bool.eq_iff_iff, Nat.beq_eq]
    simp only [Bool.and_eq_true, beq_iff_eq, true_and, Nat.reduceAdd, Nat.reduceSub, Int.reducePow]
    constructor
    · rintro ⟨⟨⟨h15, h14⟩, h13⟩, h12⟩
      have n3 := (nib3 x 0 1 1 1 (by simp) (by simp) (by simp) (by simp)).1 ⟨h15, h14, h13, h12⟩
      clear h15 h14 h13 h12
      omega
    · intro h
      obtain ⟨h15, h14, h13, h12⟩ := (nib3 x 0 1 1 1 (by simp) (by simp) (by simp) (by simp)).2 (by omega)
      exact ⟨⟨⟨h15, h14⟩, h13⟩, h12⟩
  all_goals (simp; try omega)

theorem txt_5 : txtBits ((5 : Nat) : Int) = [48, 49, 49, 48, 110, 110, 110, 110, 109, 109, 109, 109, 48, 48, 49, 49] := by decide +kernel
theorem landx_5 (x : Nat) (hx : x < 65536) : Nat.land x 18446744073709547535 = x % 16 + 0 + 0 + 4096 * (x / 4096 % 16) := by
  rw [land16 x, land16 (x / 16), land16 (x / 16 / 16), land16 (x / 16 / 16 / 16), show x / 16 / 16 / 16 / 16 = 0 by omega, zero_land]
  simp only [Nat.reduceMod, Nat.reduceDiv, land_15, land_0]
  omega
theorem dr_5 (x : Nat) (hx : x < 65536) : decRun (x : Int) (txtBits ((5 : Nat) : Int)) 0 dec0 = ⟨decHit (x : Int) ((5 : Nat) : Int), (x / 256 % 16 : Nat), (x / 16 % 16 : Nat), 0, 0⟩ := by
  rw [txt_5, hit_nat x 5 4080 24579 hx (by decide +kernel) (by decide +kernel) (by decide +kernel) (by decide), show 18446744073709551615 - 4080 = 18446744073709547535 from rfl, landx_5 x hx]
  unfold dec0
  repeat (first | rw [dr48] | rw [dr49] | rw [dr110] | rw [dr109] | rw [dr105])
  rw [drNil, DecSt.mk.injEq]
  refine ⟨?_, ?_, ?_, ?_, ?_⟩
  · rw [Bool.eq_iff_iff, Nat.beq_eq]
    simp only [Bool.and_eq_true, beq_iff_eq, true_and, Nat.reduceAdd, Nat.reduceSub, Int.reducePow]
    constructor
    · rintro ⟨⟨⟨⟨⟨⟨⟨h15, h14⟩, h13⟩, h12⟩, h3⟩, h2⟩, h1⟩, h0⟩
      have n3 := (nib3 x 0 1 1 0 (by simp) (by simp) (by simp) (by simp)).1 ⟨h15, h14, h13, h12⟩
      have n0 := (nib0 x 0 0 1 1 (by simp) (by simp) (by simp) (by simp)).1 ⟨h3, h2, h1, h0⟩
      clear h15 h14 h13 h12 h3 h2 h1 h0
      omega
    · intro h
      obtain ⟨h15, h14, h13, h12⟩ := (nib3 x 0 1 1 0 (by simp) (by simp) (by simp) (by simp)).2 (by omega)
      obtain ⟨h3, h2, h1, h0⟩ := (nib0 x 0 0 1 1 (by simp) (by simp) (by simp) (by simp)).2 (by omega)
      exact ⟨⟨⟨⟨⟨⟨⟨h15, h14⟩, h13⟩, h12⟩, h3⟩, h2⟩, h1⟩, h0⟩
  all_goals (simp; try omega)

theorem txt_6 : txtBits ((6 : Nat) : Int) = [48, 48, 49, 49, 110, 110, 110, 110, 109, 109, 109, 109, 49, 49, 48, 48] := by decide +kernel
theorem landx_6 (x : Nat) (hx : x < 65536) : Nat.land x 18446744073709547535 = x % 16 + 0 + 0 + 4096 * (x / 4096 % 16) := by
  rw [land16 x, land16 (x / 16), land16 (x / 16 / 16), land16 (x / 16 / 16 / 16), show x / 16 / 16 / 16 / 16 = 0 by omega, zero_land]
  simp only [Nat.reduceMod, Nat.reduceDiv, land_15, land_0]
  omega
theorem dr_6 (x : Nat) (hx : x < 65536) : decRun (x : Int) (txtBits ((6 : Nat) : Int)) 0 dec0 = ⟨decHit (x : Int) ((6 : Nat) : Int), (x / 256 % 16 : Nat), (x / 16 % 16 : Nat), 0, 0⟩ := by
  rw [txt_6, hit_nat x 6 4080 12300 hx (by decide +kernel) (by decide +kernel) (by decide +kernel) (by decide), show 18446744073709551615 - 4080 = 18446744073709547535 from rfl, landx_6 x hx]
  unfold dec0
  repeat (first | rw [dr48] | rw [dr49] | rw [dr110] | rw [dr109] | rw [dr105])
  rw [drNil, DecSt.mk.injEq]
  refine ⟨?_, ?_, ?_, ?_, ?_⟩
  · rw [Bool.eq_iff_iff, Nat.beq_eq]
    simp only [Bool.and_eq_true, beq_iff_eq, true_and, Nat.reduceAdd, Nat.reduceSub, Int.reducePow]
    constructor
    · rintro ⟨⟨⟨⟨⟨⟨⟨h15, h14⟩, h13⟩, h12⟩, h3⟩, h2⟩, h1⟩, h0⟩
      have n3 := (nib3 x 0 0 1 1 (by simp) (by simp) (by simp) (by simp)).1 ⟨h15, h14, h13, h12⟩
      have n0 := (nib0 x 1 1 0 0 (by simp) (by simp) (by simp) (by simp)).1 ⟨h3, h2, h1, h0⟩
      clear h15 h14 h13 h12 h3 h2 h1 h0
      omega
    · intro h
      obtain ⟨h15, h14, h13, h12⟩ := (nib3 x 0 0 1 1 (by simp) (by simp) (by simp) (by simp)).2 (by omega)
      obtain ⟨h3, h2, h1, h0⟩ := (nib0 x 1 1 0 0 (by simp) (by simp) (by simp) (by simp)).2 (by omega)
      exact ⟨⟨⟨⟨⟨⟨⟨h15, h14⟩, h13⟩, h12⟩, h3⟩, h2⟩, h1⟩, h0⟩
  all_goals (simp; try omega)

theorem txt_7 : txtBits ((7 : Nat) : Int) = [48, 48, 49, 49, 110, 110, 110, 110, 109, 109, 109, 109, 49, 48, 48, 48] := by decide +kernel
theorem landx_7 (x : Nat) (hx : x < 65536) : Nat.land x 18446744073709547535 = x % 16 + 0 + 0 + 4096 * (x / 4096 % 16) := by
  rw [land16 x, land16 (x / 16), land16 (x / 16 / 16), land16 (x / 16 / 16 / 16), show x / 16 / 16 / 16 / 16 = 0 by omega, zero_land]
  simp only [Nat.reduceMod, Nat.reduceDiv, land_15, land_0]
  omega
theorem dr_7 (x : Nat) (hx : x < 65536) : decRun (x : Int) (txtBits ((7 : Nat) : Int)) 0 dec0 = ⟨decHit (x : Int) ((7 : Nat) : Int), (x / 256 % 16 : Nat), (x / 16 % 16 : Nat), 0, 0⟩ := by
  rw [txt_7, hit_nat x 7 4080 12296 hx (by decide +kernel) (by decide +kernel) (by decide +kernel) (by decide), show 18446744073709551615 - 4080 = 18446744073709547535 from rfl, landx_7 x hx]
  unfold dec0
  repeat (first | rw [dr48] | rw [dr49] | rw [dr110] | rw [dr109] | rw [dr105])
  rw [drNil, DecSt.mk.injEq]
  refine ⟨?_, ?_, ?_, ?_, ?_⟩
  · rw [Bool.eq_iff_iff, Nat.beq_eq]
    simp only [Bool.and_eq_true, beq_iff_eq, true_and, Nat.reduceAdd, Nat.reduceSub, Int.reducePow]
    constructor
    · rintro ⟨⟨⟨⟨⟨⟨⟨h15, h14⟩, h13⟩, h12⟩, h3⟩, h2⟩, h1⟩, h0⟩
      have n3 := (nib3 x 0 0 1 1 (by simp) (by simp) (by simp) (by simp)).1 ⟨h15, h14, h13, h12⟩
      have n0 := (nib0 x 1 0 0 0 (by simp) (by simp) (by simp) (by simp)).1 ⟨h3, h2, h1, h0⟩
      clear h15 h14 h13 h12 h3 h2 h1 h0
      omega
    · intro h
      obtain ⟨h15, h14, h13, h12⟩ := (nib3 x 0 0 1 1 (by simp) (by simp) (by simp) (by simp)).2 (by omega)
      obtain ⟨h3, h2, h1, h0⟩ := (nib0 x 1 0 0 0 (by simp) (by simp) (by simp) (by simp)).2 (by omega)
      exact ⟨⟨⟨⟨⟨⟨⟨h15, h14⟩, h13⟩, h12⟩, h3⟩, h2⟩, h1⟩, h0⟩
  all_goals (simp; try omega)

theorem txt_8 : txtBits ((8 : Nat) : Int) = [48, 48, 49, 48, 110, 110, 110, 110, 109, 109, 109, 109, 49, 48, 48, 49] := by decide +kernel
theorem landx_8 (x : Nat) (hx : x < 65536) : Nat.land x 18446744073709547535 = x % 16 + 0 + 0 + 4096 * (x / 4096 % 16) := by
  rw [land16 x, land16 (x / 16), land16 (x / 16 / 16), land16 (x / 16 / 16 / 16), show x / 16 / 16 / 16 / 16 = 0 by omega, zero_land]
  simp only [Nat.reduceMod, Nat.reduceDiv, land_15, land_0]
  omega
theorem dr_8 (x : Nat) (hx : x < 65536) : decRun (x : Int) (txtBits ((8 : Nat) : Int)) 0 dec0 = ⟨decHit (x : Int) ((8 : Nat) : Int), (x / 256 % 16 : Nat), (x / 16 % 16 : Nat), 0, 0⟩ := by
  rw [txt_8, hit_nat x 8 4080 8201 hx (by decide +kernel) (by decide +kernel) (by decide +kernel) (by decide), show 18446744073709551615 - 4080 = 18446744073709547535 from rfl, landx_8 x hx]
  unfold dec0
  repeat (first | rw [dr48] | rw [dr49] | rw [dr110] | rw [dr109] | rw [dr105])
  rw [drNil, DecSt.mk.injEq]
  refine ⟨?_, ?_, ?_, ?_, ?_⟩
  · rw [Bool.eq_iff_iff, Nat.beq_eq]
    simp only [Bool.and_eq_true, beq_iff_eq, true_and, Nat.reduceAdd, Nat.reduceSub, Int.reducePow]
    constructor
    · rintro ⟨⟨⟨⟨⟨⟨⟨h15, h14⟩, h13⟩, h12⟩, h3⟩, h2⟩, h1⟩, h0⟩
      have n3 := (nib3 x 0 0 1 0 (by simp) (by simp) (by simp) (by simp)).1 ⟨h15, h14, h13, h12⟩
      have n0 := (nib0 x 1 0 0 1 (by simp) (by simp) (by simp) (by simp)).1 ⟨h3, h2, h1, h0⟩
      clear h15 h14 h13 h12 h3 h2 h1 h0
      omega
    · intro h
      obtain ⟨h15, h14, h13, h12⟩ := (nib3 x 0 0 1 0 (by simp) (by simp) (by simp) (by simp)).2 (by omega)
      obtain ⟨h3, h2, h1, h0⟩ := (nib0 x 1 0 0 1 (by simp) (by simp) (by simp) (by simp)).2 (by omega)
      exact ⟨⟨⟨⟨⟨⟨⟨h15, h14⟩, h13⟩, h12⟩, h3⟩, h2⟩, h1⟩, h0⟩
  all_goals (simp; try omega)

theorem txt_9 : txtBits ((9 : Nat) : Int) = [48, 48, 49, 48, 110, 110, 110, 110, 109, 109, 109, 109, 49, 48, 49, 49] := by decide +kernel
theorem landx_9 (x : Nat) (hx : x < 65536) : Nat.land x 18446744073709547535 = x % 16 + 0 + 0 + 4096 * (x / 4096 % 16) := by
  rw [land16 x, land16 (x / 16), land16 (x / 16 / 16), land16 (x / 16 / 16 / 16), show x / 16 / 16 / 16 / 16 = 0 by omega, zero_land]
  simp only [Nat.reduceMod, Nat.reduceDiv, land_15, land_0]
  omega
theorem dr_9 (x : Nat) (hx : x < 65536) : decRun (x : Int) (txtBits ((9 : Nat) : Int)) 0 dec0 = ⟨decHit (x : Int) ((9 : Nat) : Int), (x / 256 % 16 : Nat), (x / 16 % 16 : Nat), 0, 0⟩ := by
  rw [txt_9, hit_nat x 9 4080 8203 hx (by decide +kernel) (by decide +kernel) (by decide +kernel) (by decide), show 18446744073709551615 - 4080 = 18446744073709547535 from rfl, landx_9 x hx]
  unfold dec0
  repeat (first | rw [dr48] | rw [dr49] | rw [dr110] | rw [dr109] | rw [dr105])
  rw [drNil, DecSt.mk.injEq]
  refine ⟨?_, ?_, ?_, ?_, ?_⟩
  · rw [Bool.eq_iff_iff, Nat.beq_eq]
    simp only [Bool.and_eq_true, beq_iff_eq, true_and, Nat.reduceAdd, Nat.reduceSub, Int.reducePow]
    constructor
    · rintro ⟨⟨⟨⟨⟨⟨⟨h15, h14⟩, h13⟩, h12⟩, h3⟩, h2⟩, h1⟩, h0⟩
      have n3 := (nib3 x 0 0 1 0 (by simp) (by simp) (by simp) (by simp)).1 ⟨h15, h14, h13, h12⟩
      have n0 := (nib0 x 1 0 1 1 (by simp) (by simp) (by simp) (by simp)).1 ⟨h3, h2, h1, h0⟩
      clear h15 h14 h13 h12 h3 h2 h1 h0
      omega
    · intro h
      obtain ⟨h15, h14, h13, h12⟩ := (nib3 x 0 0 1 0 (by simp) (by simp) (by simp) (by simp)).2 (by omega)
      obtain ⟨h3, h2, h1, h0⟩ := (nib0 x 1 0 1 1 (by simp) (by simp) (by simp) (by simp)).2 (by omega)
      exact ⟨⟨⟨⟨⟨⟨⟨h15, h14⟩, h13⟩, h12⟩, h3⟩, h2⟩, h1⟩, h0⟩
  all_goals (simp; try omega)

theorem txt_10 : txtBits ((10 : Nat) : Int) = [48, 48, 49, 48, 110, 110, 110, 110, 109, 109, 109, 109, 49, 48, 49, 48] := by decide +kernel
theorem landx_10 (x : Nat) (hx : x < 65536) : Nat.land x 18446744073709547535 = x % 16 + 0 + 0 + 4096 * (x / 4096 % 16) := by
  rw [land16 x, land16 (x / 16), land16 (x / 16 / 16), land16 (x / 16 / 16 / 16), show x / 16 / 16 / 16 / 16 = 0 by omega, zero_land]
  simp only [Nat.reduceMod, Nat.reduceDiv, land_15, land_0]
  omega
theorem dr_10 (x : Nat) (hx : x < 65536) : decRun (x : Int) (txtBits ((10 : Nat) : Int)) 0 dec0 = ⟨decHit (x : Int) ((10 : Nat) : Int), (x / 256 % 16 : Nat), (x / 16 % 16 : Nat), 0, 0⟩ := by
  rw [txt_10, hit_nat x 10 4080 8202 hx (by decide +kernel) (by decide +kernel) (by decide +kernel) (by decide), show 18446744073709551615 - 4080 = 18446744073709547535 from rfl, landx_10 x hx]
  unfold dec0
  repeat (first | rw [dr48] | rw [dr49] | rw [dr110] | rw [dr109] | rw [dr105])
  rw [drNil, DecSt.mk.injEq]
  refine ⟨?_, ?_, ?_, ?_, ?_⟩
  · rw [Bool.eq_iff_iff, Nat.beq_eq]
    simp only [Bool.and_eq_true, beq_iff_eq, true_and, Nat.reduceAdd, Nat.reduceSub, Int.reducePow]
    constructor
    · rintro ⟨⟨⟨⟨⟨⟨⟨h15, h14⟩, h13⟩, h12⟩, h3⟩, h2⟩, h1⟩, h0⟩
      have n3 := (nib3 x 0 0 1 0 (by simp) (by simp) (by simp) (by simp)).1 ⟨h15, h14, h13, h12⟩
      have n0 := (nib0 x 1 0 1 0 (by simp) (by simp) (by simp) (by simp)).1 ⟨h3, h2, h1, h0⟩
      clear h15 h14 h13 h12 h3 h2 h1 h0
      omega
    · intro h
      obtain ⟨h15, h14, h13, h12⟩ := (nib3 x 0 0 1 0 (by simp) (by simp) (by simp) (by simp)).2 (by omega)
      obtain ⟨h3, h2, h1, h0⟩ := (nib0 x 1 0 1 0 (by simp) (by simp) (by simp) (by simp)).2 (by omega)
      exact ⟨⟨⟨⟨⟨⟨⟨h15, h14⟩, h13⟩, h12⟩, h3⟩, h2⟩, h1⟩, h0⟩
  all_goals (simp; try omega)

theorem txt_11 : txtBits ((11 : Nat) : Int) = [48, 48, 49, 48, 110, 110, 110, 110, 109, 109, 109, 109, 49, 48, 48, 48] := by decide +kernel
theorem landx_11 (x : Nat) (hx : x < 65536) : Nat.land x 18446744073709547535 = x % 16 + 0 + 0 + 4096 * (x / 4096 % 16) := by
  rw [land16 x, land16 (x / 16), land16 (x / 16 / 16), land16 (x / 16 / 16 / 16), show x / 16 / 16 / 16 / 16 = 0 by omega, zero_land]
  simp only [Nat.reduceMod, Nat.reduceDiv, land_15, land_0]
  omega
theorem dr_11 (x : Nat) (hx : x < 65536) : decRun (x : Int) (txtBits ((11 : Nat) : Int)) 0 dec0 = ⟨decHit (x : Int) ((11 : Nat) : Int), (x / 256 % 16 : Nat), (x / 16 % 16 : Nat), 0, 0⟩ := by
  rw [txt_11, hit_nat x 11 4080 8200 hx (by decide +kernel) (by decide +kernel) (by decide +kernel) (by decide), show 18446744073709551615 - 4080 = 18446744073709547535 from rfl, landx_11 x hx]
  unfold dec0
  repeat (first | rw [dr48] | rw [dr49] | rw [dr110] | rw [dr109] | rw [dr105])
  rw [drNil, DecSt.mk.injEq]
  refine ⟨?_, ?_, ?_, ?_, ?_⟩
  · rw [Bool.eq_iff_iff, Nat.beq_eq]
    simp only [Bool.and_eq_true, beq_iff_eq, true_and, Nat.reduceAdd, Nat.reduceSub, Int.reducePow]
    constructor
    · rintro ⟨⟨⟨⟨⟨⟨⟨h15, h14⟩, h13⟩, h12⟩, h3⟩, h2⟩, h1⟩, h0⟩
      have n3 := (nib3 x 0 0 1 0 (by simp) (by simp) (by simp) (by simp)).1 ⟨h15, h14, h13, h12⟩
      have n0 := (nib0 x 1 0 0 0 (by simp) (by simp) (by simp) (by simp)).1 ⟨h3, h2, h1, h0⟩
      clear h15 h14 h13 h12 h3 h2 h1 h0
      omega
    · intro h
      obtain ⟨h15, h14, h13, h12⟩ := (nib3 x 0 0 1 0 (by simp) (by simp) (by simp) (by simp)).2 (by omega)
      obtain ⟨h3, h2, h1, h0⟩ := (nib0 x 1 0 0 0 (by simp) (by simp) (by simp) (by simp)).2 (by omega)
      exact ⟨⟨⟨⟨⟨⟨⟨h15, h14⟩, h13⟩, h12⟩, h3⟩, h2⟩, h1⟩, h0⟩
  all_goals (simp; try omega)

theorem txt_12 : txtBits ((12 : Nat) : Int) = [48, 48, 49, 49, 110, 110, 110, 110, 109, 109, 109, 109, 48, 48, 48, 48] := by decide +kernel
theorem landx_12 (x : Nat) (hx : x < 65536) : Nat.land x 18446744073709547535 = x % 16 + 0 + 0 + 4096 * (x / 4096 % 16) := by
  rw [land16 x, land16 (x / 16), land16 (x / 16 / 16), land16 (x / 16 / 16 / 16), show x / 16 / 16 / 16 / 16 = 0 by omega, zero_land]
  simp only [Nat.reduceMod, Nat.reduceDiv, land_15, land_0]
  omega
theorem dr_12 (x : Nat) (hx : x < 65536) : decRun (x : Int) (txtBits ((12 : Nat) : Int)) 0 dec0 = ⟨decHit (x : Int) ((12 : Nat) : Int), (x / 256 % 16 : Nat), (x / 16 % 16 : Nat), 0, 0⟩ := by
  rw [txt_12, hit_nat x 12 4080 12288 hx (by decide +kernel) (by decide +kernel) (by decide +kernel) (by decide), show 18446744073709551615 - 4080 = 18446744073709547535 from rfl, landx_12 x hx]
  unfold dec0
  repeat (first | rw [dr48] | rw [dr49] | rw [dr110] | rw [dr109] | rw [dr105])
  rw [drNil, DecSt.mk.injEq]
  refine ⟨?_, ?_, ?_, ?_, ?_⟩
  · rw [Bool.eq_iff_iff, Nat.beq_eq]
    simp only [Bool.and_eq_true, beq_iff_eq, true_and, Nat.reduceAdd, Nat.reduceSub, Int.reducePow]
    constructor
    · rintro ⟨⟨⟨⟨⟨⟨⟨h15, h14⟩, h13⟩, h12⟩, h3⟩, h2⟩, h1⟩, h0⟩
      have n3 := (nib3 x 0 0 1 1 (by simp) (by simp) (by simp) (by simp)).1 ⟨h15, h14, h13, h12⟩
      have n0 := (nib0 x 0 0 0 0 (by simp) (by simp) (by simp) (by simp)).1 ⟨h3, h2, h1, h0⟩
      clear h15 h14 h13 h12 h3 h2 h1 h0
      omega
    · intro h
      obtain ⟨h15, h14, h13, h12⟩ := (nib3 x 0 0 1 1 (by simp) (by simp) (by simp) (by simp)).2 (by omega)
      obtain ⟨h3, h2, h1, h0⟩ := (nib0 x 0 0 0 0 (by simp) (by simp) (by simp) (by simp)).2 (by omega)
      exact ⟨⟨⟨⟨⟨⟨⟨h15, h14⟩, h13⟩, h12⟩, h3⟩, h2⟩, h1⟩, h0⟩
  all_goals (simp; try omega)

theorem txt_13 : txtBits ((13 : Nat) : Int) = [48, 48, 49, 49, 110, 110, 110, 110, 109, 109, 109, 109, 48, 49, 49, 49] := by decide +kernel
theorem landx_13 (x : Nat) (hx : x < 65536) : Nat.land x 18446744073709547535 = x % 16 + 0 + 0 + 4096 * (x / 4096 % 16) := by
  rw [land16 x, land16 (x / 16), land16 (x / 16 / 16), land16 (x / 16 / 16 / 16), show x / 16 / 16 / 16 / 16 = 0 by omega, zero_land]
  simp only [Nat.reduceMod, Nat.reduceDiv, land_15, land_0]
  omega
theorem dr_13 (x : Nat) (hx : x < 65536) : decRun (x : Int) (txtBits ((13 : Nat) : Int)) 0 dec0 = ⟨decHit (x : Int) ((13 : Nat) : Int), (x / 256 % 16 : Nat), (x / 16 % 16 : Nat), 0, 0⟩ := by
  rw [txt_13, hit_nat x 13 4080 12295 hx (by decide +kernel) (by decide +kernel) (by decide +kernel) (by decide), show 18446744073709551615 - 4080 = 18446744073709547535 from rfl, landx_13 x hx]
  unfold dec0
  repeat (first | rw [dr48] | rw [dr49] | rw [dr110] | rw [dr109] | rw [dr105])
  rw [drNil, DecSt.mk.injEq]
  refine ⟨?_, ?_, ?_, ?_, ?_⟩
  · rw [Bool.eq_iff_iff, Nat.beq_eq]
    simp only [Bool.and_eq_true, beq_iff_eq, true_and, Nat.reduceAdd, Nat.reduceSub, Int.reducePow]
    constructor
    · rintro ⟨⟨⟨⟨⟨⟨⟨h15, h14⟩, h13⟩, h12⟩, h3⟩, h2⟩, h1⟩, h0⟩
      have n3 := (nib3 x 0 0 1 1 (by simp) (by simp) (by simp) (by simp)).1 ⟨h15, h14, h13, h12⟩
      have n0 := (nib0 x 0 1 1 1 (by simp) (by simp) (by simp) (by simp)).1 ⟨h3, h2, h1, h0⟩
      clear h15 h14 h13 h12 h3 h2 h1 h0
      omega
    · intro h
      obtain ⟨h15, h14, h13, h12⟩ := (nib3 x 0 0 1 1 (by simp) (by simp) (by simp) (by simp)).2 (by omega)
      obtain ⟨h3, h2, h1, h0⟩ := (nib0 x 0 1 1 1 (by simp) (by simp) (by simp) (by simp)).2 (by omega)
      exact ⟨⟨⟨⟨⟨⟨⟨h15, h14⟩, h13⟩, h12⟩, h3⟩, h2⟩, h1⟩, h0⟩
  all_goals (simp; try omega)

theorem txt_14 : txtBits ((14 : Nat) : Int) = [48, 49, 48, 48, 110, 110, 110, 110, 48, 48, 48, 48, 48, 48, 48, 48] := by decide +kernel
theorem landx_14 (x : Nat) (hx : x < 65536) : Nat.land x 18446744073709547775 = x % 16 + 16 * (x / 16 % 16) + 0 + 4096 * (x / 4096 % 16) := by
  rw [land16 x, land16 (x / 16), land16 (x / 16 / 16), land16 (x / 16 / 16 / 16), show x / 16 / 16 / 16 / 16 = 0 by omega, zero_land]
  simp only [Nat.reduceMod, Nat.reduceDiv, land_15, land_0]
  omega
theorem dr_14 (x : Nat) (hx : x < 65536) : decRun (x : Int) (txtBits ((14 : Nat) : Int)) 0 dec0 = ⟨decHit (x : Int) ((14 : Nat) : Int), (x / 256 % 16 : Nat), 0, 0, 0⟩ := by
  rw [txt_14, hit_nat x 14 3840 16384 hx (by decide +kernel) (by decide +kernel) (by decide +kernel) (by decide), show 18446744073709551615 - 3840 = 18446744073709547775 from rfl, landx_14 x hx]
  unfold dec0
  repeat (first | rw [dr48] | rw [dr49] | rw [dr110] | rw [dr109] | rw [dr105])
  rw [drNil, DecSt.mk.injEq]
  refine ⟨?_, ?_, ?_, ?_, ?_⟩
  · rw [Bool.eq_iff_iff, Nat.beq_eq]
    simp only [Bool.and_eq_true, beq_iff_eq, true_and, Nat.reduceAdd, Nat.reduceSub, Int.reducePow]
    constructor
    · rintro ⟨⟨⟨⟨⟨⟨⟨⟨⟨⟨⟨h15, h14⟩, h13⟩, h12⟩, h7⟩, h6⟩, h5⟩, h4⟩, h3⟩, h2⟩, h1⟩, h0⟩
      have n3 := (nib3 x 0 1 0 0 (by simp) (by simp) (by simp) (by simp)).1 ⟨h15, h14, h13, h12⟩
      have n1 := (nib1 x 0 0 0 0 (by simp) (by simp) (by simp) (by simp)).1 ⟨h7, h6, h5, h4⟩
      have n0 := (nib0 x 0 0 0 0 (by simp) (by simp) (by simp) (by simp)).1 ⟨h3, h2, h1, h0⟩
      clear h15 h14 h13 h12 h7 h6 h5 h4 h3 h2 h1 h0
      omega
    · intro h
      obtain ⟨h15, h14, h13, h12⟩ := (nib3 x 0 1 0 0 (by simp) (by simp) (by simp) (by simp)).2 (by omega)
      obtain ⟨h7, h6, h5, h4⟩ := (nib1 x 0 0 0 0 (by simp) (by simp) (by simp) (by simp)).2 (by omega)
      obtain ⟨h3, h2, h1, h0⟩ := (nib0 x 0 0 0 0 (by simp) (by simp) (by simp) (by simp)).2 (by omega)
      exact ⟨⟨⟨⟨⟨⟨⟨⟨⟨⟨⟨h15, h14⟩, h13⟩, h12⟩, h7⟩, h6⟩, h5⟩, h4⟩, h3⟩, h2⟩, h1⟩, h0⟩
  all_goals (simp; try omega)

theorem txt_15 : txtBits ((15 : Nat) : Int) = [48, 49, 48, 48, 110, 110, 110, 110, 48, 48, 48, 48, 48, 48, 48, 49] := by decide +kernel
theorem landx_15 (x : Nat) (hx : x < 65536) : Nat.land x 18446744073709547775 = x % 16 + 16 * (x / 16 % 16) + 0 + 4096 * (x / 4096 % 16) := by
  rw [land16 x, land16 (x / 16), land16 (x / 16 / 16), land16 (x / 16 / 16 / 16), show x / 16 / 16 / 16 / 16 = 0 by omega, zero_land]
  simp only [Nat.reduceMod, Nat.reduceDiv, land_15, land_0]
  omega
theorem dr_15 (x : Nat) (hx : x < 65536) : decRun (x : Int) (txtBits ((15 : Nat) : Int)) 0 dec0 = ⟨decHit (x : Int) ((15 : Nat) : Int), (x / 256 % 16 : Nat), 0, 0, 0⟩ := by
  rw [txt_15, hit_nat x 15 3840 16385 hx (by decide +kernel) (by decide +kernel) (by decide +kernel) (by decide), show 18446744073709551615 - 3840 = 18446744073709547775 from rfl, landx_15 x hx]
  unfold dec0
  repeat (first | rw [dr48] | rw [dr49] | rw [dr110] | rw [dr109] | rw [dr105])
  rw [drNil, DecSt.mk.injEq]
  refine ⟨?_, ?_, ?_, ?_, ?_⟩
  · rw [Bool.eq_iff_iff, Nat.beq_eq]
    simp only [Bool.and_eq_true, beq_iff_eq, true_and, Nat.reduceAdd, Nat.reduceSub, Int.reducePow]
    constructor
    · rintro ⟨⟨⟨⟨⟨⟨⟨⟨⟨⟨⟨h15, h14⟩, h13⟩, h12⟩, h7⟩, h6⟩, h5⟩, h4⟩, h3⟩, h2⟩, h1⟩, h0⟩
      have n3 := (nib3 x 0 1 0 0 (by simp) (by simp) (by simp) (by simp)).1 ⟨h15, h14, h13, h12⟩
      have n1 := (nib1 x 0 0 0 0 (by simp) (by simp) (by simp) (by simp)).1 ⟨h7, h6, h5, h4⟩
      have n0 := (nib0 x 0 0 0 1 (by simp) (by simp) (by simp) (by simp)).1 ⟨h3, h2, h1, h0⟩
      clear h15 h14 h13 h12 h7 h6 h5 h4 h3 h2 h1 h0
      omega
    · intro h
      obtain ⟨h15, h14, h13, h12⟩ := (nib3 x 0 1 0 0 (by simp) (by simp) (by simp) (by simp)).2 (by omega)
      obtain ⟨h7, h6, h5, h4⟩ := (nib1 x 0 0 0 0 (by simp) (by simp) (by simp) (by simp)).2 (by omega)
      obtain ⟨h3, h2, h1, h0⟩ := (nib0 x 0 0 0 1 (by simp) (by simp) (by simp) (by simp)).2 (by omega)
      exact ⟨⟨⟨⟨⟨⟨⟨⟨⟨⟨⟨h15, h14⟩, h13⟩, h12⟩, h7⟩, h6⟩, h5⟩, h4⟩, h3⟩, h2⟩, h1⟩, h0⟩
  all_goals (simp; try omega)

theorem txt_16 : txtBits ((16 : Nat) : Int) = [48, 49, 48, 48, 110, 110, 110, 110, 48, 48, 48, 49, 48, 48, 48, 48] := by decide +kernel
theorem landx_16 (x : Nat) (hx : x < 65536) : Nat.land x 18446744073709547775 = x % 16 + 16 * (x / 16 % 16) + 0 + 4096 * (x / 4096 % 16) := by
  rw [land16 x, land16 (x / 16), land16 (x / 16 / 16), land16 (x / 16 / 16 / 16), show x / 16 / 16 / 16 / 16 = 0 by omega, zero_land]
  simp only [Nat.reduceMod, Nat.reduceDiv, land_15, land_0]
  omega
theorem dr_16 (x : Nat) (hx : x < 65536) : decRun (x : Int) (txtBits ((16 : Nat) : Int)) 0 dec0 = ⟨decHit (x : Int) ((16 : Nat) : Int), (x / 256 % 16 : Nat), 0, 0, 0⟩ := by
  rw [txt_16, hit_nat x 16 3840 16400 hx (by decide +kernel) (by decide +kernel) (by decide +kernel) (by decide), show 18446744073709551615 - 3840 = 18446744073709547775 from rfl, landx_16 x hx]
  unfold dec0
  repeat (first | rw [dr48] | rw [dr49] | rw [dr110] | rw [dr109] | rw [dr105])
  rw [drNil, DecSt.mk.injEq]
  refine ⟨?_, ?_, ?_, ?_, ?_⟩
  · rw [Bool.eq_iff_iff, Nat.beq_eq]
    simp only [Bool.and_eq_true, beq_iff_eq, true_and, Nat.reduceAdd, Nat.reduceSub, Int.reducePow]
    constructor
    · rintro ⟨⟨⟨⟨⟨⟨⟨⟨⟨⟨⟨h15, h14⟩, h13⟩, h12⟩, h7⟩, h6⟩, h5⟩, h4⟩, h3⟩, h2⟩, h1⟩, h0⟩
      have n3 := (nib3 x 0 1 0 0 (by simp) (by simp) (by simp) (by simp)).1 ⟨h15, h14, h13, h12⟩
      have n1 := (nib1 x 0 0 0 1 (by simp) (by simp) (by simp) (by simp)).1 ⟨h7, h6, h5, h4⟩
      have n0 := (nib0 x 0 0 0 0 (by simp) (by simp) (by simp) (by simp)).1 ⟨h3, h2, h1, h0⟩
      clear h15 h14 h13 h12 h7 h6 h5 h4 h3 h2 h1 h0
      omega
    · intro h
      obtain ⟨h15, h14, h13, h12⟩ := (nib3 x 0 1 0 0 (by simp) (by simp) (by simp) (by simp)).2 (by omega)
      obtain ⟨h7, h6, h5, h4⟩ := (nib1 x 0 0 0 1 (by simp) (by simp) (by simp) (by simp)).2 (by omega)
      obtain ⟨h3, h2, h1, h0⟩ := (nib0 x 0 0 0 0 (by simp) (by simp) (by simp) (by simp)).2 (by omega)
      exact ⟨⟨⟨⟨⟨⟨⟨⟨⟨⟨⟨h15, h14⟩, h13⟩, h12⟩, h7⟩, h6⟩, h5⟩, h4⟩, h3⟩, h2⟩, h1⟩, h0⟩
  all_goals (simp; try omega)

theorem txt_17 : txtBits ((17 : Nat) : Int) = [49, 48, 48, 48, 49, 48, 48, 49, 105, 105, 105, 105, 105, 105, 105, 105] := by decide +kernel
theorem landx_17 (x : Nat) (hx : x < 65536) : Nat.land x 18446744073709551360 = 0 + 0 + 256 * (x / 256 % 16) + 4096 * (x / 4096 % 16) := by
  rw [land16 x, land16 (x / 16), land16 (x / 16 / 16), land16 (x / 16 / 16 / 16), show x / 16 / 16 / 16 / 16 = 0 by omega, zero_land]
  simp only [Nat.reduceMod, Nat.reduceDiv, land_15, land_0]
  omega
theorem dr_17 (x : Nat) (hx : x < 65536) : decRun (x : Int) (txtBits ((17 : Nat) : Int)) 0 dec0 = ⟨decHit (x : Int) ((17 : Nat) : Int), 0, 0, (x % 256 : Nat), 8⟩ := by
  rw [txt_17, hit_nat x 17 255 35072 hx (by decide +kernel) (by decide +kernel) (by decide +kernel) (by decide), show 18446744073709551615 - 255 = 18446744073709551360 from rfl, landx_17 x hx]
  unfold dec0
  repeat (first | rw [dr48] | rw [dr49] | rw [dr110] | rw [dr109] | rw [dr105])
  rw [drNil, DecSt.mk.injEq]
  refine ⟨?_, ?_, ?_, ?_, ?_⟩
  · rw [Bool.eq_iff_iff, Nat.beq_eq]
    simp only [Bool.and_eq_true, beq_iff_eq, true_and, Nat.reduceAdd, Nat.reduceSub, Int.reducePow]
    constructor
    · rintro ⟨⟨⟨⟨⟨⟨⟨h15, h14⟩, h13⟩, h12⟩, h11⟩, h10⟩, h9⟩, h8⟩
      have n3 := (nib3 x 1 0 0 0 (by simp) (by simp) (by simp) (by simp)).1 ⟨h15, h14, h13, h12⟩
      have n2 := (nib2 x 1 0 0 1 (by simp) (by simp) (by simp) (by simp)).1 ⟨h11, h10, h9, h8⟩
      clear h15 h14 h13 h12 h11 h10 h9 h8
      omega
    · intro h
      obtain ⟨h15, h14, h13, h12⟩ := (nib3 x 1 0 0 0 (by simp) (by simp) (by simp) (by simp)).2 (by omega)
      obtain ⟨h11, h10, h9, h8⟩ := (nib2 x 1 0 0 1 (by simp) (by simp) (by simp) (by simp)).2 (by omega)
      exact ⟨⟨⟨⟨⟨⟨⟨h15, h14⟩, h13⟩, h12⟩, h11⟩, h10⟩, h9⟩, h8⟩
  all_goals (simp; try omega)

theorem txt_18 : txtBits ((18 : Nat) : Int) = [49, 48, 48, 48, 49, 48, 49, 49, 105, 105, 105, 105, 105, 105, 105, 105] := by decide +kernel
theorem landx_18 (x : Nat) (hx : x < 65536) : Nat.land x 18446744073709551360 = 0 + 0 + 256 * (x / 256 % 16) + 4096 * (x / 4096 % 16) := by
  rw [land16 x, land16 (x / 16), land16 (x / 16 / 16), land16 (x / 16 / 16 / 16), show x / 16 / 16 / 16 / 16 = 0 by omega, zero_land]
  simp only [Nat.reduceMod, Nat.reduceDiv, land_15, land_0]
  omega
theorem dr_18 (x : Nat) (hx : x < 65536) : decRun (x : Int) (txtBits ((18 : Nat) : Int)) 0 dec0 = ⟨decHit (x : Int) ((18 : Nat) : Int), 0, 0, (x % 256 : Nat), 8⟩ := by
  rw [txt_18, hit_nat x 18 255 35584 hx (by decide +kernel) (by decide +kernel) (by decide +kernel) (by decide), show 18446744073709551615 - 255 = 18446744073709551360 from rfl, landx_18 x hx]
  unfold dec0
  repeat (first | rw [dr48] | rw [dr49] | rw [dr110] | rw [dr109] | rw [dr105])
  rw [drNil, DecSt.mk.injEq]
  refine ⟨?_, ?_, ?_, ?_, ?_⟩
  · rw [Bool.eq_iff_iff, Nat.beq_eq]
    simp only [Bool.and_eq_true, beq_iff_eq, true_and, Nat.reduceAdd, Nat.reduceSub, Int.reducePow]
    constructor
    · rintro ⟨⟨⟨⟨⟨⟨⟨h15, h14⟩, h13⟩, h12⟩, h11⟩, h10⟩, h9⟩, h8⟩
      have n3 := (nib3 x 1 0 0 0 (by simp) (by simp) (by simp) (by simp)).1 ⟨h15, h14, h13, h12⟩
      have n2 := (nib2 x 1 0 1 1 (by simp) (by simp) (by simp) (by simp)).1 ⟨h11, h10, h9, h8⟩
      clear h15 h14 h13 h12 h11 h10 h9 h8
      omega
    · intro h
      obtain ⟨h15, h14, h13, h12⟩ := (nib3 x 1 0 0 0 (by simp) (by simp) (by simp) (by simp)).2 (by omega)
      obtain ⟨h11, h10, h9, h8⟩ := (nib2 x 1 0 1 1 (by simp) (by simp) (by simp) (by simp)).2 (by omega)
      exact ⟨⟨⟨⟨⟨⟨⟨h15, h14⟩, h13⟩, h12⟩, h11⟩, h10⟩, h9⟩, h8⟩
  all_goals (simp; try omega)

theorem txt_19 : txtBits ((19 : Nat) : Int) = [49, 48, 49, 48, 105, 105, 105, 105, 105, 105, 105, 105, 105, 105, 105, 105] := by decide +kernel
theorem landx_19 (x : Nat) (hx : x < 65536) : Nat.land x 18446744073709547520 = 0 + 0 + 0 + 4096 * (x / 4096 % 16) := by
  rw [land16 x, land16 (x / 16), land16 (x / 16 / 16), land16 (x / 16 / 16 / 16), show x / 16 / 16 / 16 / 16 = 0 by omega, zero_land]
  simp only [Nat.reduceMod, Nat.reduceDiv, land_15, land_0]
  omega
set_option maxHeartbeats 2000000 in
theorem dr_19 (x : Nat) (hx : x < 65536) : decRun (x : Int) (txtBits ((19 : Nat) : Int)) 0 dec0 = ⟨decHit (x : Int) ((19 : Nat) : Int), 0, 0, (x % 4096 : Nat), 12⟩ := by
  rw [txt_19, hit_nat x 19 4095 40960 hx (by decide +kernel) (by decide +kernel) (by decide +kernel) (by decide), show 18446744073709551615 - 4095 = 18446744073709547520 from rfl, landx_19 x hx]
  unfold dec0
  repeat (first | rw [dr48] | rw [dr49] | rw [dr110] | rw [dr109] | rw [dr105])
  rw [drNil, DecSt.mk.injEq]
  refine ⟨?_, ?_, ?_, ?_, ?_⟩
  · rw [Bool.eq_iff_iff, Nat.beq_eq]
    simp only [Bool.and_eq_true, beq_iff_eq, true_and, Nat.reduceAdd, Nat.reduceSub, Int.reducePow]
    constructor
    · rintro ⟨⟨⟨h15, h14⟩, h13⟩, h12⟩
      have n3 := (nib3 x 1 0 1 0 (by simp) (by simp) (by simp) (by simp)).1 ⟨h15, h14, h13, h12⟩
      clear h15 h14 h13 h12
      omega
    · intro h
      obtain ⟨h15, h14, h13, h12⟩ := (nib3 x 1 0 1 0 (by simp) (by simp) (by simp) (by simp)).2 (by omega)
      exact ⟨⟨⟨h15, h14⟩, h13⟩, h12⟩
  all_goals (simp; try omega)

theorem txt_20 : txtBits ((20 : Nat) : Int) = [49, 48, 49, 49, 105, 105, 105, 105, 105, 105, 105, 105, 105, 105, 105, 105] := by decide +kernel
theorem landx_20 (x : Nat) (hx : x < 65536) : Nat.land x 18446744073709547520 = 0 + 0 + 0 + 4096 * (x / 4096 % 16) := by
  rw [land16 x, land16 (x / 16), land16 (x / 16 / 16), land16 (x / 16 / 16 / 16), show x / 16 / 16 / 16 / 16 = 0 by omega, zero_land]
  simp only [Nat.reduceMod, Nat.reduceDiv, land_15, land_0]
  omega
set_option maxHeartbeats 2000000 in
theorem dr_20 (x : Nat) (hx : x < 65536) : decRun (x : Int) (txtBits ((20 : Nat) : Int)) 0 dec0 = ⟨decHit (x : Int) ((20 : Nat) : Int), 0, 0, (x % 4096 : Nat), 12⟩ := by
  rw [txt_20, hit_nat x 20 4095 45056 hx (by decide +kernel) (by decide +kernel) (by decide +kernel) (by decide), show 18446744073709551615 - 4095 = 18446744073709547520 from rfl, landx_20 x hx]
  unfold dec0
  repeat (first | rw [dr48] | rw [dr49] | rw [dr110] | rw [dr109] | rw [dr105])
  rw [drNil, DecSt.mk.injEq]
  refine ⟨?_, ?_, ?_, ?_, ?_⟩
  · rw [Bool.eq_iff_iff, Nat.beq_eq]
    simp only [Bool.and_eq_true, beq_iff_eq, true_and, Nat.reduceAdd, Nat.reduceSub, Int.reducePow]
    constructor
    · rintro ⟨⟨⟨h15, h14⟩, h13⟩, h12⟩
      have n3 := (nib3 x 1 0 1 1 (by simp) (by simp) (by simp) (by simp)).1 ⟨h15, h14, h13, h12⟩
      clear h15 h14 h13 h12
      omega
    · intro h
      obtain ⟨h15, h14, h13, h12⟩ := (nib3 x 1 0 1 1 (by simp) (by simp) (by simp) (by simp)).2 (by omega)
      exact ⟨⟨⟨h15, h14⟩, h13⟩, h12⟩
  all_goals (simp; try omega)

theorem txt_21 : txtBits ((21 : Nat) : Int) = [48, 49, 48, 48, 110, 110, 110, 110, 48, 48, 49, 48, 49, 48, 49, 49] := by decide +kernel
theorem landx_21 (x : Nat) (hx : x < 65536) : Nat.land x 18446744073709547775 = x % 16 + 16 * (x / 16 % 16) + 0 + 4096 * (x / 4096 % 16) := by
  rw [land16 x, land16 (x / 16), land16 (x / 16 / 16), land16 (x / 16 / 16 / 16), show x / 16 / 16 / 16 / 16 = 0 by omega, zero_land]
  simp only [Nat.reduceMod, Nat.reduceDiv, land_15, land_0]
  omega
theorem dr_21 (x : Nat) (hx : x < 65536) : decRun (x : Int) (txtBits ((21 : Nat) : Int)) 0 dec0 = ⟨decHit (x : Int) ((21 : Nat) : Int), (x / 256 % 16 : Nat), 0, 0, 0⟩ := by
  rw [txt_21, hit_nat x 21 3840 16427 hx (by decide +kernel) (by decide +kernel) (by decide +kernel) (by decide), show 18446744073709551615 - 3840 = 18446744073709547775 from rfl, landx_21 x hx]
  unfold dec0
  repeat (first | rw [dr48] | rw [dr49] | rw [dr110] | rw [dr109] | rw [dr105])
  rw [drNil, DecSt.mk.injEq]
  refine ⟨?_, ?_, ?_, ?_, ?_⟩
  · rw [Bool.eq_iff_iff, Nat.beq_eq]
    simp only [Bool.and_eq_true, beq_iff_eq, true_and, Nat.reduceAdd, Nat.reduceSub, Int.reducePow]
    constructor
    · rintro ⟨⟨⟨⟨⟨⟨⟨⟨⟨⟨⟨h15, h14⟩, h13⟩, h12⟩, h7⟩, h6⟩, h5⟩, h4⟩, h3⟩, h2⟩, h1⟩, h0⟩
      have n3 := (nib3 x 0 1 0 0 (by simp) (by simp) (by simp) (by simp)).1 ⟨h15, h14, h13, h12⟩
      have n1 := (nib1 x 0 0 1 0 (by simp) (by simp) (by simp) (by simp)).1 ⟨h7, h6, h5, h4⟩
      have n0 := (nib0 x 1 0 1 1 (by simp) (by simp) (by simp) (by simp)).1 ⟨h3, h2, h1, h0⟩
      clear h15 h14 h13 h12 h7 h6 h5 h4 h3 h2 h1 h0
      omega
    · intro h
      obtain ⟨h15, h14, h13, h12⟩ := (nib3 x 0 1 0 0 (by simp) (by simp) (by simp) (by simp)).2 (by omega)
      obtain ⟨h7, h6, h5, h4⟩ := (nib1 x 0 0 1 0 (by simp) (by simp) (by simp) (by simp)).2 (by omega)
      obtain ⟨h3, h2, h1, h0⟩ := (nib0 x 1 0 1 1 (by simp) (by simp) (by simp) (by simp)).2 (by omega)
      exact ⟨⟨⟨⟨⟨⟨⟨⟨⟨⟨⟨h15, h14⟩, h13⟩, h12⟩, h7⟩, h6⟩, h5⟩, h4⟩, h3⟩, h2⟩, h1⟩, h0⟩
  all_goals (simp; try omega)

theorem txt_22 : txtBits ((22 : Nat) : Int) = [48, 49, 48, 48, 110, 110, 110, 110, 48, 48, 48, 48, 49, 48, 49, 49] := by decide +kernel
theorem landx_22 (x : Nat) (hx : x < 65536) : Nat.land x 18446744073709547775 = x % 16 + 16 * (x / 16 % 16) + 0 + 4096 * (x / 4096 % 16) := by
  rw [land16 x, land16 (x / 16), land16 (x / 16 / 16), land16 (x / 16 / 16 / 16), show x / 16 / 16 / 16 / 16 = 0 by omega, zero_land]
  simp only [Nat.reduceMod, Nat.reduceDiv, land_15, land_0]
  omega
theorem dr_22 (x : Nat) (hx : x < 65536) : decRun (x : Int) (txtBits ((22 : Nat) : Int)) 0 dec0 = ⟨decHit (x : Int) ((22 : Nat) : Int), (x / 256 % 16 : Nat), 0, 0, 0⟩ := by
  rw [txt_22, hit_nat x 22 3840 16395 hx (by decide +kernel) (by decide +kernel) (by decide +kernel) (by decide), show 18446744073709551615 - 3840 = 18446744073709547775 from rfl, landx_22 x hx]
  unfold dec0
  repeat (first | rw [dr48] | rw [dr49] | rw [dr110] | rw [dr109] | rw [dr105])
  rw [drNil, DecSt.mk.injEq]
  refine ⟨?_, ?_, ?_, ?_, ?_⟩
  · rw [Bool.eq_iff_iff, Nat.beq_eq]
    simp only [Bool.and_eq_true, beq_iff_eq, true_and, Nat.reduceAdd, Nat.reduceSub, Int.reducePow]
    constructor
    · rintro ⟨⟨⟨⟨⟨⟨⟨⟨⟨⟨⟨h15, h14⟩, h13⟩, h12⟩, h7⟩, h6⟩, h5⟩, h4⟩, h3⟩, h2⟩, h1⟩, h0⟩
      have n3 := (nib3 x 0 1 0 0 (by simp) (by simp) (by simp) (by simp)).1 ⟨h15, h14, h13, h12⟩
      have n1 := (nib1 x 0 0 0 0 (by simp) (by simp) (by simp) (by simp)).1 ⟨h7, h6, h5, h4⟩
      have n0 := (nib0 x 1 0 1 1 (by simp) (by simp) (by simp) (by simp)).1 ⟨h3, h2, h1, h0⟩
      clear h15 h14 h13 h12 h7 h6 h5 h4 h3 h2 h1 h0
      omega
    · intro h
      obtain ⟨h15, h14, h13, h12⟩ := (nib3 x 0 1 0 0 (by simp) (by simp) (by simp) (by simp)).2 (by omega)
      obtain ⟨h7, h6, h5, h4⟩ := (nib1 x 0 0 0 0 (by simp) (by simp) (by simp) (by simp)).2 (by omega)
      obtain ⟨h3, h2, h1, h0⟩ := (nib0 x 1 0 1 1 (by simp) (by simp) (by simp) (by simp)).2 (by omega)
      exact ⟨⟨⟨⟨⟨⟨⟨⟨⟨⟨⟨h15, h14⟩, h13⟩, h12⟩, h7⟩, h6⟩, h5⟩, h4⟩, h3⟩, h2⟩, h1⟩, h0⟩
  all_goals (simp; try omega)

theorem txt_23 : txtBits ((23 : Nat) : Int) = [49, 48, 48, 49, 110, 110, 110, 110, 105, 105, 105, 105, 105, 105, 105, 105] := by decide +kernel
theorem landx_23 (x : Nat) (hx : x < 65536) : Nat.land x 18446744073709547520 = 0 + 0 + 0 + 4096 * (x / 4096 % 16) := by
  rw [land16 x, land16 (x / 16), land16 (x / 16 / 16), land16 (x / 16 / 16 / 16), show x / 16 / 16 / 16 / 16 = 0 by omega, zero_land]
  simp only [Nat.reduceMod, Nat.reduceDiv, land_15, land_0]
  omega
theorem dr_23 (x : Nat) (hx : x < 65536) : decRun (x : Int) (txtBits ((23 : Nat) : Int)) 0 dec0 = ⟨decHit (x : Int) ((23 : Nat) : Int), (x / 256 % 16 : Nat), 0, (x % 256 : Nat), 8⟩ := by
  rw [txt_23, hit_nat x 23 4095 36864 hx (by decide +kernel) (by decide +kernel) (by decide +kernel) (by decide), show 18446744073709551615 - 4095 = 18446744073709547520 from rfl, landx_23 x hx]
  unfold dec0
  repeat (first | rw [dr48] | rw [dr49] | rw [dr110] | rw [dr109] | rw [dr105])
  rw [drNil, DecSt.mk.injEq]
  refine ⟨?_, ?_, ?_, ?_, ?_⟩
  · rw [Bool.eq_iff_iff, Nat.beq_eq]
    simp only [Bool.and_eq_true, beq_iff_eq, true_and, Nat.reduceAdd, Nat.reduceSub, Int.reducePow]
    constructor
    · rintro ⟨⟨⟨h15, h14⟩, h13⟩, h12⟩
      have n3 := (nib3 x 1 0 0 1 (by simp) (by simp) (by simp) (by simp)).1 ⟨h15, h14, h13, h12⟩
      clear h15 h14 h13 h12
      omega
    · intro h
      obtain ⟨h15, h14, h13, h12⟩ := (nib3 x 1 0 0 1 (by simp) (by simp) (by simp) (by simp)).2 (by omega)
      exact ⟨⟨⟨h15, h14⟩, h13⟩, h12⟩
  all_goals (simp; try omega)

theorem txt_24 : txtBits ((24 : Nat) : Int) = [49, 49, 48, 49, 110, 110, 110, 110, 105, 105, 105, 105, 105, 105, 105, 105] := by decide +kernel
theorem landx_24 (x : Nat) (hx : x < 65536) : Nat.land x 18446744073709547520 = 0 + 0 + 0 + 4096 * (x / 4096 % 16) := by
  rw [land16 x, land16 (x / 16), land16 (x / 16 / 16), land16 (x / 16 / 16 / 16), show x / 16 / 16 / 16 / 16 = 0 by omega, zero_land]
  simp only [Nat.reduceMod, Nat.reduceDiv, land_15, land_0]
  omega
theorem dr_24 (x : Nat) (hx : x < 65536) : decRun (x : Int) (txtBits ((24 : Nat) : Int)) 0 dec0 = ⟨decHit (x : Int) ((24 : Nat) : Int), (x / 256 % 16 : Nat), 0, (x % 256 : Nat), 8⟩ := by
  rw [txt_24, hit_nat x 24 4095 53248 hx (by decide +kernel) (by decide +kernel) (by decide +kernel) (by decide), show 18446744073709551615 - 4095 = 18446744073709547520 from rfl, landx_24 x hx]
  unfold dec0
  repeat (first | rw [dr48] | rw [dr49] | rw [dr110] | rw [dr109] | rw [dr105])
  rw [drNil, DecSt.mk.injEq]
  refine ⟨?_, ?_, ?_, ?_, ?_⟩
  · rw [Bool.eq_iff_iff, Nat.beq_eq]
    simp only [Bool.and_eq_true, beq_iff_eq, true_and, Nat.reduceAdd, Nat.reduceSub, Int.reducePow]
    constructor
    · rintro ⟨⟨⟨h15, h14⟩, h13⟩, h12⟩
      have n3 := (nib3 x 1 1 0 1 (by simp) (by simp) (by simp) (by simp)).1 ⟨h15, h14, h13, h12⟩
      clear h15 h14 h13 h12
      omega
    · intro h
      obtain ⟨h15, h14, h13, h12⟩ := (nib3 x 1 1 0 1 (by simp) (by simp) (by simp) (by simp)).2 (by omega)
      exact ⟨⟨⟨h15, h14⟩, h13⟩, h12⟩
  all_goals (simp; try omega)

theorem txt_25 : txtBits ((25 : Nat) : Int) = [48, 48, 49, 48, 110, 110, 110, 110, 109, 109, 109, 109, 48, 48, 49, 48] := by decide +kernel
theorem landx_25 (x : Nat) (hx : x < 65536) : Nat.land x 18446744073709547535 = x % 16 + 0 + 0 + 4096 * (x / 4096 % 16) := by
  rw [land16 x, land16 (x / 16), land16 (x / 16 / 16), land16 (x / 16 / 16 / 16), show x / 16 / 16 / 16 / 16 = 0 by omega, zero_land]
  simp only [Nat.reduceMod, Nat.reduceDiv, land_15, land_0]
  omega
theorem dr_25 (x : Nat) (hx : x < 65536) : decRun (x : Int) (txtBits ((25 : Nat) : Int)) 0 dec0 = ⟨decHit (x : Int) ((25 : Nat) : Int), (x / 256 % 16 : Nat), (x / 16 % 16 : Nat), 0, 0⟩ := by
  rw [txt_25, hit_nat x 25 4080 8194 hx (by decide +kernel) (by decide +kernel) (by decide +kernel) (by decide), show 18446744073709551615 - 4080 = 18446744073709547535 from rfl, landx_25 x hx]
  unfold dec0
  repeat (first | rw [dr48] | rw [dr49] | rw [dr110] | rw [dr109] | rw [dr105])
  rw [drNil, DecSt.mk.injEq]
  refine ⟨?_, ?_, ?_, ?_, ?_⟩
  · rw [Bool.eq_iff_iff, Nat.beq_eq]
    simp only [Bool.and_eq_true, beq_iff_eq, true_and, Nat.reduceAdd, Nat.reduceSub, Int.reducePow]
    constructor
    · rintro ⟨⟨⟨⟨⟨⟨⟨h15, h14⟩, h13⟩, h12⟩, h3⟩, h2⟩, h1⟩, h0⟩
      have n3 := (nib3 x 0 0 1 0 (by simp) (by simp) (by simp) (by simp)).1 ⟨h15, h14, h13, h12⟩
      have n0 := (nib0 x 0 0 1 0 (by simp) (by simp) (by simp) (by simp)).1 ⟨h3, h2, h1, h0⟩
      clear h15 h14 h13 h12 h3 h2 h1 h0
      omega
    · intro h
      obtain ⟨h15, h14, h13, h12⟩ := (nib3 x 0 0 1 0 (by simp) (by simp) (by simp) (by simp)).2 (by omega)
      obtain ⟨h3, h2, h1, h0⟩ := (nib0 x 0 0 1 0 (by simp) (by simp) (by simp) (by simp)).2 (by omega)
      exact ⟨⟨⟨⟨⟨⟨⟨h15, h14⟩, h13⟩, h12⟩, h3⟩, h2⟩, h1⟩, h0⟩
  all_goals (simp; try omega)

theorem txt_26 : txtBits ((26 : Nat) : Int) = [48, 49, 49, 48, 110, 110, 110, 110, 109, 109, 109, 109, 48, 48, 49, 48] := by decide +kernel
theorem landx_26 (x : Nat) (hx : x < 65536) : Nat.land x 18446744073709547535 = x % 16 + 0 + 0 + 4096 * (x / 4096 % 16) := by
  rw [land16 x, land16 (x / 16), land16 (x / 16 / 16), land16 (x / 16 / 16 / 16), show x / 16 / 16 / 16 / 16 = 0 by omega, zero_land]
  simp only [Nat.reduceMod, Nat.reduceDiv, land_15, land_0]
  omega
theorem dr_26 (x : Nat) (hx : x < 65536) : decRun (x : Int) (txtBits ((26 : Nat) : Int)) 0 dec0 = ⟨decHit (x : Int) ((26 : Nat) : Int), (x / 256 % 16 : Nat), (x / 16 % 16 : Nat), 0, 0⟩ := by
  rw [txt_26, hit_nat x 26 4080 24578 hx (by decide +kernel) (by decide +kernel) (by decide +kernel) (by decide), show 18446744073709551615 - 4080 = 18446744073709547535 from rfl, landx_26 x hx]
  unfold dec0
  repeat (first | rw [dr48] | rw [dr49] | rw [dr110] | rw [dr109] | rw [dr105])
  rw [drNil, DecSt.mk.injEq]
  refine ⟨?_, ?_, ?_, ?_, ?_⟩
  · rw [Bool.eq_iff_iff, Nat.beq_eq]
    simp only [Bool.and_eq_true, beq_iff_eq, true_and, Nat.reduceAdd, Nat.reduceSub, Int.reducePow]
    constructor
    · rintro ⟨⟨⟨⟨⟨⟨⟨h15, h14⟩, h13⟩, h12⟩, h3⟩, h2⟩, h1⟩, h0⟩
      have n3 := (nib3 x 0 1 1 0 (by simp) (by simp) (by simp) (by simp)).1 ⟨h15, h14, h13, h12⟩
      have n0 := (nib0 x 0 0 1 0 (by simp) (by simp) (by simp) (by simp)).1 ⟨h3, h2, h1, h0⟩
      clear h15 h14 h13 h12 h3 h2 h1 h0
      omega
    · intro h
      obtain ⟨h15, h14, h13, h12⟩ := (nib3 x 0 1 1 0 (by simp) (by simp) (by simp) (by simp)).2 (by omega)
      obtain ⟨h3, h2, h1, h0⟩ := (nib0 x 0 0 1 0 (by simp) (by simp) (by simp) (by simp)).2 (by omega)
      exact ⟨⟨⟨⟨⟨⟨⟨h15, h14⟩, h13⟩, h12⟩, h3⟩, h2⟩, h1⟩, h0⟩
  all_goals (simp; try omega)

theorem txt_27 : txtBits ((27 : Nat) : Int) = [49, 49, 48, 48, 48, 48, 49, 49, 105, 105, 105, 105, 105, 105, 105, 105] := by decide +kernel
theorem landx_27 (x : Nat) (hx : x < 65536) : Nat.land x 18446744073709551360 = 0 + 0 + 256 * (x / 256 % 16) + 4096 * (x / 4096 % 16) := by
  rw [land16 x, land16 (x / 16), land16 (x / 16 / 16), land16 (x / 16 / 16 / 16), show x / 16 / 16 / 16 / 16 = 0 by omega, zero_land]
  simp only [Nat.reduceMod, Nat.reduceDiv, land_15, land_0]
  omega
theorem dr_27 (x : Nat) (hx : x < 65536) : decRun (x : Int) (txtBits ((27 : Nat) : Int)) 0 dec0 = ⟨decHit (x : Int) ((27 : Nat) : Int), 0, 0, (x % 256 : Nat), 8⟩ := by
  rw [txt_27, hit_nat x 27 255 49920 hx (by decide +kernel) (by decide +kernel) (by decide +kernel) (by decide), show 18446744073709551615 - 255 = 18446744073709551360 from rfl, landx_27 x hx]
  unfold dec0
  repeat (first | rw [dr48] | rw [dr49] | rw [dr110] | rw [dr109] | rw [dr105])
  rw [drNil, DecSt.mk.injEq]
  refine ⟨?_, ?_, ?_, ?_, ?_⟩
  · rw [Bool.eq_iff_iff, Nat.beq_eq]
    simp only [Bool.and_eq_true, beq_iff_eq, true_and, Nat.reduceAdd, Nat.reduceSub, Int.reducePow]
    constructor
    · rintro ⟨⟨⟨⟨⟨⟨⟨h15, h14⟩, h13⟩, h12⟩, h11⟩, h10⟩, h9⟩, h8⟩
      have n3 := (nib3 x 1 1 0 0 (by simp) (by simp) (by simp) (by simp)).1 ⟨h15, h14, h13, h12⟩
      have n2 := (nib2 x 0 0 1 1 (by simp) (by simp) (by simp) (by simp)).1 ⟨h11, h10, h9, h8⟩
      clear h15 h14 h13 h12 h11 h10 h9 h8
      omega
    · intro h
      obtain ⟨h15, h14, h13, h12⟩ := (nib3 x 1 1 0 0 (by simp) (by simp) (by simp) (by simp)).2 (by omega)
      obtain ⟨h11, h10, h9, h8⟩ := (nib2 x 0 0 1 1 (by simp) (by simp) (by simp) (by simp)).2 (by omega)
      exact ⟨⟨⟨⟨⟨⟨⟨h15, h14⟩, h13⟩, h12⟩, h11⟩, h10⟩, h9⟩, h8⟩
  all_goals (simp; try omega)

theorem landW (y d : Nat) (hd : d = 0 ∨ d = 4) : ((Nat.land y (2 ^ d - 1) : Nat) : Int) = if d = 0 then 0 else ((y % 16 : Nat) : Int) := by
  have : Nat.land y (2 ^ d - 1) = y % 2 ^ d := Nat.and_two_pow_sub_one_eq_mod _ _
  rw [this]
  rcases hd with rfl | rfl
  · simp
  · simp

theorem dr_all (k : Nat) (h1 : 1 ≤ k) (h2 : k < 28) (x : Nat) (hx : x < 65536) : decRun (x : Int) (txtBits (k : Int)) 0 dec0 =
    ⟨decHit (x : Int) (k : Int), ((Nat.land (x / 256) (2 ^ wideN k - 1) : Nat) : Int), ((Nat.land (x / 16) (2 ^ wideM k - 1) : Nat) : Int), ((x % 2 ^ wideI k : Nat) : Int), ((wideI k : Nat) : Int)⟩ := by
  obtain ⟨_, _, _, w1, w2, _, _, _, _, _⟩ := row_facts k h2
  rw [landW _ _ w1, landW _ _ w2]
  clear w1 w2
  have h : k = 1 ∨ k = 2 ∨ k = 3 ∨ k = 4 ∨ k = 5 ∨ k = 6 ∨ k = 7 ∨ k = 8 ∨ k = 9 ∨ k = 10 ∨ k = 11 ∨ k = 12 ∨ k = 13 ∨ k = 14 ∨ k = 15 ∨ k = 16 ∨ k = 17 ∨ k = 18 ∨ k = 19 ∨ k = 20 ∨ k = 21 ∨ k = 22 ∨ k = 23 ∨ k = 24 ∨ k = 25 ∨ k = 26 ∨ k = 27 := by omega
  rcases h with rfl | rfl | rfl | rfl | rfl | rfl | rfl | rfl | rfl | rfl | rfl | rfl | rfl | rfl | rfl | rfl | rfl | rfl | rfl | rfl | rfl | rfl | rfl | rfl | rfl | rfl | rfl
  · rw [dr_1 x hx]; simp [wideN, wideM, wideI]
  · rw [dr_2 x hx]; simp [wideN, wideM, wideI]
  · rw [dr_3 x hx]; simp [wideN, wideM, wideI]
  · rw [dr_4 x hx]; simp [wideN, wideM, wideI]
  · rw [dr_5 x hx]; simp [wideN, wideM, wideI]
  · rw [dr_6 x hx]; simp [wideN, wideM, wideI]
  · rw [dr_7 x hx]; simp [wideN, wideM, wideI]
  · rw [dr_8 x hx]; simp [wideN, wideM, wideI]
  · rw [dr_9 x hx]; simp [wideN, wideM, wideI]
  · rw [dr_10 x hx]; simp [wideN, wideM, wideI]
  · rw [dr_11 x hx]; simp [wideN, wideM, wideI]
  · rw [dr_12 x hx]; simp [wideN, wideM, wideI]
  · rw [dr_13 x hx]; simp [wideN, wideM, wideI]
  · rw [dr_14 x hx]; simp [wideN, wideM, wideI]
  · rw [dr_15 x hx]; simp [wideN, wideM, wideI]
  · rw [dr_16 x hx]; simp [wideN, wideM, wideI]
  · rw [dr_17 x hx]; simp [wideN, wideM, wideI]
  · rw [dr_18 x hx]; simp [wideN, wideM, wideI]
  · rw [dr_19 x hx]; simp [wideN, wideM, wideI]
  · rw [dr_20 x hx]; simp [wideN, wideM, wideI]
  · rw [dr_21 x hx]; simp [wideN, wideM, wideI]
  · rw [dr_22 x hx]; simp [wideN, wideM, wideI]
  · rw [dr_23 x hx]; simp [wideN, wideM, wideI]
  · rw [dr_24 x hx]; simp [wideN, wideM, wideI]
  · rw [dr_25 x hx]; simp [wideN, wideM, wideI]
  · rw [dr_26 x hx]; simp [wideN, wideM, wideI]
  · rw [dr_27 x hx]; simp [wideN, wideM, wideI]

end Go.Proofs.YtagkmgdjkailkaaGreatDoor.Isa
