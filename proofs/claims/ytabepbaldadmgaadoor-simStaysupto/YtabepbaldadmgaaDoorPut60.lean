/- The document's Decode reads the same instruction: the plain mathematics. The contract of the document's own Decode. -/
import Derived.Test.YtabepbaldadmgaaDoorPut8
namespace Go.Proofs.YtabepbaldadmgaaDoor.Isa
open Go.RowKit

/-- Fits, the registers, the number, and how wide it is. -/
structure DecSt where
  f : Bool
  n : Int
  m : Int
  i : Int
  d : Int

/-- Bit by bit from the uppermost one on. -/
def decRun (x : Int) : List UInt8 → Nat → DecSt → DecSt
  | [], _, s => s
  | c :: cs, k, s =>
    if c = 48 then decRun x cs (k + 1) { s with f := s.f && (x / 2 ^ (15 - k) % 2 == 0) }
    else if c = 49 then decRun x cs (k + 1) { s with f := s.f && (x / 2 ^ (15 - k) % 2 == 1) }
    else if c = 110 then decRun x cs (k + 1) { s with n := 2 * s.n + x / 2 ^ (15 - k) % 2 }
    else if c = 109 then decRun x cs (k + 1) { s with m := 2 * s.m + x / 2 ^ (15 - k) % 2 }
    else decRun x cs (k + 1) { s with i := 2 * s.i + x / 2 ^ (15 - k) % 2, d := s.d + 1 }

def dec0 : DecSt := ⟨true, 0, 0, 0, 0⟩
def txtBits (k : Int) : List UInt8 := (refBits k).data.toList

theorem land16 (x c : Nat) : Nat.land x c = Nat.land (x % 16) (c % 16) + 16 * Nat.land (x / 16) (c / 16) := by
  have h1 : Nat.land x c % 2 ^ 4 = Nat.land (x % 2 ^ 4) (c % 2 ^ 4) := Nat.and_mod_two_pow
  have h2 : Nat.land x c >>> 4 = Nat.land (x >>> 4) (c >>> 4) := Nat.shiftRight_and_distrib
  rw [Nat.shiftRight_eq_div_pow, Nat.shiftRight_eq_div_pow, Nat.shiftRight_eq_div_pow] at h2
  simp only [show (2 : Nat) ^ 4 = 16 from rfl] at h1 h2
  omega

theorem land_15 (y : Nat) : Nat.land (y % 16) 15 = y % 16 := by
  have : Nat.land (y % 16) (2 ^ 4 - 1) = y % 16 % 2 ^ 4 := Nat.and_two_pow_sub_one_eq_mod _ _
  simpa using this
theorem land_0 (y : Nat) : Nat.land y 0 = 0 := Nat.and_zero _
theorem zero_land (y : Nat) : Nat.land 0 y = 0 := Nat.zero_and _

theorem dr48 (x : Int) (cs : List UInt8) (k : Nat) (f : Bool) (n m i d : Int) : decRun x (48 :: cs) k ⟨f, n, m, i, d⟩ = decRun x cs (k + 1) ⟨f && (x / 2 ^ (15 - k) % 2 == 0), n, m, i, d⟩ := rfl
theorem dr49 (x : Int) (cs : List UInt8) (k : Nat) (f : Bool) (n m i d : Int) : decRun x (49 :: cs) k ⟨f, n, m, i, d⟩ = decRun x cs (k + 1) ⟨f && (x / 2 ^ (15 - k) % 2 == 1), n, m, i, d⟩ := rfl
theorem dr110 (x : Int) (cs : List UInt8) (k : Nat) (f : Bool) (n m i d : Int) : decRun x (110 :: cs) k ⟨f, n, m, i, d⟩ = decRun x cs (k + 1) ⟨f, 2 * n + x / 2 ^ (15 - k) % 2, m, i, d⟩ := rfl
theorem dr109 (x : Int) (cs : List UInt8) (k : Nat) (f : Bool) (n m i d : Int) : decRun x (109 :: cs) k ⟨f, n, m, i, d⟩ = decRun x cs (k + 1) ⟨f, n, 2 * m + x / 2 ^ (15 - k) % 2, i, d⟩ := rfl
theorem dr105 (x : Int) (cs : List UInt8) (k : Nat) (f : Bool) (n m i d : Int) : decRun x (105 :: cs) k ⟨f, n, m, i, d⟩ = decRun x cs (k + 1) ⟨f, n, m, 2 * i + x / 2 ^ (15 - k) % 2, d + 1⟩ := rfl
theorem drNil (x : Int) (k : Nat) (s : DecSt) : decRun x [] k s = s := rfl

theorem nib0 (x : Nat) (b3 b2 b1 b0 : Int) (_h3 : b3 = 0 ∨ b3 = 1) (h2 : b2 = 0 ∨ b2 = 1) (h1 : b1 = 0 ∨ b1 = 1) (h0 : b0 = 0 ∨ b0 = 1) : ((x : Int) / 8 % 2 = b3 ∧ (x : Int) / 4 % 2 = b2 ∧ (x : Int) / 2 % 2 = b1 ∧ (x : Int) / 1 % 2 = b0) ↔ ((x % 16 : Nat) : Int) = 8 * b3 + 4 * b2 + 2 * b1 + b0 := by
  omega
theorem nib1 (x : Nat) (b3 b2 b1 b0 : Int) (_h3 : b3 = 0 ∨ b3 = 1) (h2 : b2 = 0 ∨ b2 = 1) (h1 : b1 = 0 ∨ b1 = 1) (h0 : b0 = 0 ∨ b0 = 1) : ((x : Int) / 128 % 2 = b3 ∧ (x : Int) / 64 % 2 = b2 ∧ (x : Int) / 32 % 2 = b1 ∧ (x : Int) / 16 % 2 = b0) ↔ ((x / 16 % 16 : Nat) : Int) = 8 * b3 + 4 * b2 + 2 * b1 + b0 := by
  omega
theorem nib2 (x : Nat) (b3 b2 b1 b0 : Int) (_h3 : b3 = 0 ∨ b3 = 1) (h2 : b2 = 0 ∨ b2 = 1) (h1 : b1 = 0 ∨ b1 = 1) (h0 : b0 = 0 ∨ b0 = 1) : ((x : Int) / 2048 % 2 = b3 ∧ (x : Int) / 1024 % 2 = b2 ∧ (x : Int) / 512 % 2 = b1 ∧ (x : Int) / 256 % 2 = b0) ↔ ((x / 256 % 16 : Nat) : Int) = 8 * b3 + 4 * b2 + 2 * b1 + b0 := by
  omega
theorem nib3 (x : Nat) (b3 b2 b1 b0 : Int) (_h3 : b3 = 0 ∨ b3 = 1) (h2 : b2 = 0 ∨ b2 = 1) (h1 : b1 = 0 ∨ b1 = 1) (h0 : b0 = 0 ∨ b0 = 1) : ((x : Int) / 32768 % 2 = b3 ∧ (x : Int) / 16384 % 2 = b2 ∧ (x : Int) / 8192 % 2 = b1 ∧ (x : Int) / 4096 % 2 = b0) ↔ ((x / 4096 % 16 : Nat) : Int) = 8 * b3 + 4 * b2 + 2 * b1 + b0 := by
  omega
theorem txt_1 : txtBits ((1 : Nat) : Int) = [48, 48, 48, 48, 48, 48, 48, 48, 48, 48, 48, 48, 49, 48, 48, 49] := by decide +kernel
theorem landx_1 (x : Nat) (hx : x < 65536) : Nat.land x 18446744073709551615 = x % 16 + 16 * (x / 16 % 16) + 256 * (x / 256 % 16) + 4096 * (x / 4096 % 16) := by
  rw [land16 x, land16 (x / 16), land16 (x / 16 / 16), land16 (x / 16 / 16 / 16), show x / 16 / 16 / 16 / 16 = 0 by omega, zero_land]
  simp only [Nat.reduceMod, Nat.reduceDiv, land_15]
  omega
theorem dr_1 (x : Nat) (hx : x < 65536) : decRun (x : Int) (txtBits ((1 : Nat) : Int)) 0 dec0 = ⟨decHit (x : Int) ((1 : Nat) : Int), 0, 0, 0, 0⟩ := by
  rw [txt_1, hit_nat x 1 0 9 hx (by decide +kernel) (by decide +kernel) (by decide +kernel) (by decide), show 18446744073709551615 - 0 = 18446744073709551615 from rfl, landx_1 x hx]
  unfold dec0
  repeat (first | rw [dr48] | rw [dr49] | rw [dr110] | rw [dr109] | rw [dr105])
  rw [drNil, DecSt.mk.injEq]
  refine ⟨?_, ?_, ?_, ?_, ?_⟩
  · rw [Bool.eq_iff_iff, Nat.beq_eq]
    simp only [Bool.and_eq_true, beq_iff_eq, true_and, Nat.reduceAdd, Nat.reduceSub, Int.reducePow]
    constructor
    · rintro ⟨⟨⟨⟨⟨⟨⟨⟨⟨⟨⟨⟨⟨⟨⟨h15, h14⟩, h13⟩, h12⟩, h11⟩, h10⟩, h9⟩, h8⟩, h7⟩, h6⟩, h5⟩, h4⟩, h3⟩, h2⟩, h1⟩, h0⟩
      have n3 := (nib3 x 0 0 0 0 (by simp) (by simp) (by simp) (by simp)).1 ⟨h15, h14, h13, h12⟩
      have n2 := (nib2 x 0 0 0 0 (by simp) (by simp) (by simp) (by simp)).1 ⟨h11, h10, h9, h8⟩
      have n1 := (nib1 x 0 0 0 0 (by simp) (by simp) (by simp) (by simp)).1 ⟨h7, h6, h5, h4⟩
      have n0 := (nib0 x 1 0 0 1 (by simp) (by simp) (by simp) (by simp)).1 ⟨h3, h2, h1, h0⟩
      clear h15 h14 h13 h12 h11 h10 h9 h8 h7 h6 h5 h4 h3 h2 h1 h0
      omega
    · intro h
      obtain ⟨h15, h14, h13, h12⟩ := (nib3 x 0 0 0 0 (by simp) (by simp) (by simp) (by simp)).2 (by omega)
      obtain ⟨h11, h10, h9, h8⟩ := (nib2 x 0 0 0 0 (by simp) (by simp) (by simp) (by simp)).2 (by omega)
      obtain ⟨h7, h6, h5, h4⟩ := (nib1 x 0 0 0 0 (by simp) (by simp) (by simp) (by simp)).2 (by omega)
      obtain ⟨h3, h2, h1, h0⟩ := (nib0 x 1 0 0 1 (by simp) (by simp) (by simp) (by simp)).2 (by omega)
      exact ⟨⟨⟨⟨⟨⟨⟨⟨⟨⟨⟨⟨⟨⟨⟨h15, h14⟩, h13⟩, h12⟩, h11⟩, h10⟩, h9⟩, h8⟩, h7⟩, h6⟩, h5⟩, h4⟩, h3⟩, h2⟩, h1⟩, h0⟩
  all_goals (simp; try omega)

theorem txt_2 : txtBits ((2 : Nat) : Int) = [48, 48, 48, 48, 48, 48, 48, 48, 48, 48, 48, 48, 49, 48, 49, 49] := by decide +kernel
theorem landx_2 (x : Nat) (hx : x < 65536) : Nat.land x 18446744073709551615 = x % 16 + 16 * (x / 16 % 16) + 256 * (x / 256 % 16) + 4096 * (x / 4096 % 16) := by
  rw [land16 x, land16 (x / 16), land16 (x / 16 / 16), land16 (x / 16 / 16 / 16), show x / 16 / 16 / 16 / 16 = 0 by omega, zero_land]
  simp only [Nat.reduceMod, Nat.reduceDiv, land_15]
  omega
theorem dr_2 (x : Nat) (hx : x < 65536) : decRun (x : Int) (txtBits ((2 : Nat) : Int)) 0 dec0 = ⟨decHit (x : Int) ((2 : Nat) : Int), 0, 0, 0, 0⟩ := by
  rw [txt_2, hit_nat x 2 0 11 hx (by decide +kernel) (by decide +kernel) (by decide +kernel) (by decide), show 18446744073709551615 - 0 = 18446744073709551615 from rfl, landx_2 x hx]
  unfold dec0
  repeat (first | rw [dr48] | rw [dr49] | rw [dr110] | rw [dr109] | rw [dr105])
  rw [drNil, DecSt.mk.injEq]
  refine ⟨?_, ?_, ?_, ?_, ?_⟩
  · rw [Bool.eq_iff_iff, Nat.beq_eq]
    simp only [Bool.and_eq_true, beq_iff_eq, true_and, Nat.reduceAdd, Nat.reduceSub, Int.reducePow]
    constructor
    · rintro ⟨⟨⟨⟨⟨⟨⟨⟨⟨⟨⟨⟨⟨⟨⟨h15, h14⟩, h13⟩, h12⟩, h11⟩, h10⟩, h9⟩, h8⟩, h7⟩, h6⟩, h5⟩, h4⟩, h3⟩, h2⟩, h1⟩, h0⟩
      have n3 := (nib3 x 0 0 0 0 (by simp) (by simp) (by simp) (by simp)).1 ⟨h15, h14, h13, h12⟩
      have n2 := (nib2 x 0 0 0 0 (by simp) (by simp) (by simp) (by simp)).1 ⟨h11, h10, h9, h8⟩
      have n1 := (nib1 x 0 0 0 0 (by simp) (by simp) (by simp) (by simp)).1 ⟨h7, h6, h5, h4⟩
      have n0 := (nib0 x 1 0 1 1 (by simp) (by simp) (by simp) (by simp)).1 ⟨h3, h2, h1, h0⟩
      clear h15 h14 h13 h12 h11 h10 h9 h8 h7 h6 h5 h4 h3 h2 h1 h0
      omega
    · intro h
      obtain ⟨h15, h14, h13, h12⟩ := (nib3 x 0 0 0 0 (by simp) (by simp) (by simp) (by simp)).2 (by omega)
      obtain ⟨h11, h10, h9, h8⟩ := (nib2 x 0 0 0 0 (by simp) (by simp) (by simp) (by simp)).2 (by omega)
      obtain ⟨h7, h6, h5, h4⟩ := (nib1 x 0 0 0 0 (by simp) (by simp) (by simp) (by simp)).2 (by omega)
      obtain ⟨h3, h2, h1, h0⟩ := (nib0 x 1 0 1 1 (by simp) (by simp) (by simp) (by simp)).2 (by omega)
      exact ⟨⟨⟨⟨⟨⟨⟨⟨⟨⟨⟨⟨⟨⟨⟨h15, h14⟩, h13⟩, h12⟩, h11⟩, h10⟩, h9⟩, h8⟩, h7⟩, h6⟩, h5⟩, h4⟩, h3⟩, h2⟩, h1⟩, h0⟩
  all_goals (simp; try omega)

theorem txt_3 : txtBits ((3 : Nat) : Int) = [49, 49, 49, 48, 110, 110, 110, 110, 105, 105, 105, 105, 105, 105, 105, 105] := by decide +kernel
theorem landx_3 (x : Nat) (hx : x < 65536) : Nat.land x 18446744073709547520 = 0 + 0 + 0 + 4096 * (x / 4096 % 16) := by
  rw [land16 x, land16 (x / 16), land16 (x / 16 / 16), land16 (x / 16 / 16 / 16), show x / 16 / 16 / 16 / 16 = 0 by omega, zero_land]
  simp only [Nat.reduceMod, Nat.reduceDiv, land_15, land_0]
  omega
theorem dr_3 (x : Nat) (hx : x < 65536) : decRun (x : Int) (txtBits ((3 : Nat) : Int)) 0 dec0 = ⟨decHit (x : Int) ((3 : Nat) : Int), (x / 256 % 16 : Nat), 0, (x % 256 : Nat), 8⟩ := by
  rw [txt_3, hit_nat x 3 4095 57344 hx (by decide +kernel) (by decide +kernel) (by decide +kernel) (by decide), show 18446744073709551615 - 4095 = 18446744073709547520 from rfl, landx_3 x hx]
  unfold dec0
  repeat (first | rw [dr48] | rw [dr49] | rw [dr110] | rw [dr109] | rw [dr105])
  rw [drNil, DecSt.mk.injEq]
  refine ⟨?_, ?_, ?_, ?_, ?_⟩
  · rw [Bool.eq_iff_iff, Nat.beq_eq]
    simp only [Bool.and_eq_true, beq_iff_eq, true_and, Nat.reduceAdd, Nat.reduceSub, Int.reducePow]
    constructor
    · rintro ⟨⟨⟨h15, h14⟩, h13⟩, h12⟩
      have n3 := (nib3 x 1 1 1 0 (by simp) (by simp) (by simp) (by simp)).1 ⟨h15, h14, h13, h12⟩
      clear h15 h14 h13 h12
      omega
    · intro h
      obtain ⟨h15, h14, h13, h12⟩ := (nib3 x 1 1 1 0 (by simp) (by simp) (by simp) (by simp)).2 (by omega)
      exact ⟨⟨⟨h15, h14⟩, h13⟩, h12⟩
  all_goals (simp; try omega)

theorem txt_4 : txtBits ((4 : Nat) : Int) = [48, 49, 49, 49, 110, 110, 110, 110, 105, 105, 105, 105, 105, 105, 105, 105] := by decide +kernel
theorem landx_4 (x : Nat) (hx : x < 65536) : Nat.land x 18446744073709547520 = 0 + 0 + 0 + 4096 * (x / 4096 % 16) := by
  rw [land16 x, land16 (x / 16), land16 (x / 16 / 16), land16 (x / 16 / 16 / 16), show x / 16 / 16 / 16 / 16 = 0 by omega, zero_land]
  simp only [Nat.reduceMod, Nat.reduceDiv, land_15, land_0]
  omega
theorem dr_4 (x : Nat) (hx : x < 65536) : decRun (x : Int) (txtBits ((4 : Nat) : Int)) 0 dec0 = ⟨decHit (x : Int) ((4 : Nat) : Int), (x / 256 % 16 : Nat), 0, (x % 256 : Nat), 8⟩ := by
  rw [txt_4, hit_nat x 4 4095 28672 hx (by decide +kernel) (by decide +kernel) (by decide +kernel) (by decide), show 18446744073709551615 - 4095 = 18446744073709547520 from rfl, landx_4 x hx]
  unfold dec0
  repeat (first | rw [dr48] | rw [dr49] | rw [dr110] | rw [dr109] | rw [dr105])
  rw [drNil, DecSt.mk.injEq]
  refine ⟨?_, ?_, ?_, ?_, ?_⟩
  · rw [Bool.eq_iff_iff, Nat.beq_eq]
    simp only [Bool.and_eq_true, beq_iff_eq, true_and, Nat.reduceAdd, Nat.reduceSub, Int.reducePow]
    constructor
    · rintro ⟨⟨⟨h15, h14⟩, h13⟩, h12⟩
      have n3 := (nib3 x 0 1 1 1 (by simp) (by simp) (by simp) (by simp)).1 ⟨h15, h14, h13, h12⟩
      clear h15 h14 h13 h12
      omega
    · intro h
      obtain ⟨h15, h14, h13, h12⟩ := (nib3 x 0 1 1 1 (by simp) (by simp) (by simp) (by simp)).2 (by omega)
      exact ⟨⟨⟨h15, h14⟩, h13⟩, h12⟩
  all_goals (simp; try omega)

theorem txt_5 : txtBits ((5 : Nat) : Int) = [48, 49, 49, 48, 110, 110, 110, 110, 109, 109, 109, 109, 48, 48, 49, 49] := by decide +kernel
theorem landx_5 (x : Nat) (hx : x < 65536) : Nat.land x 18446744073709547535 = x % 16 + 0 + 0 + 4096 * (x / 4096 % 16) := by
  rw [land16 x, land16 (x / 16), land16 (x / 16 / 16), land16 (x / 16 / 16 / 16), show x / 16 / 16 / 16 / 16 = 0 by omega, zero_land]
  simp only [Nat.reduceMod, Nat.reduceDiv, land_15, land_0]
  omega
theorem dr_5 (x : Nat) (hx : x < 65536) : decRun (x : Int) (txtBits ((5 : Nat) : Int)) 0 dec0 = ⟨decHit (x : Int) ((5 : Nat) : Int), (x / 256 % 16 : Nat), (x / 16 % 16 : Nat), 0, 0⟩ := by
  rw [txt_5, hit_nat x 5 4080 24579 hx (by decide +kernel) (by decide +kernel) (by decide +kernel) (by decide), show 18446744073709551615 - 4080 = 18446744073709547535 from rfl, landx_5 x hx]
  unfold dec0
  repeat (first | rw [dr48] | rw [dr49] | rw [dr110] | rw [dr109] | rw [dr105])
  rw [drNil, DecSt.mk.injEq]
  refine ⟨?_, ?_, ?_, ?_, ?_⟩
  · rw [Bool.eq_iff_iff, Nat.beq_eq]
    simp only [Bool.and_eq_true, beq_iff_eq, true_and, Nat.reduceAdd, Nat.reduceSub, Int.reducePow]
    constructor
    · rintro ⟨⟨⟨⟨⟨⟨⟨h15, h14⟩, h13⟩, h12⟩, h3⟩, h2⟩, h1⟩, h0⟩
      have n3 := (nib3 x 0 1 1 0 (by simp) (by simp) (by simp) (by simp)).1 ⟨h15, h14, h13, h12⟩
      have n0 := (nib0 x 0 0 1 1 (by simp) (by simp) (by simp) (by simp)).1 ⟨h3, h2, h1, h0⟩
      clear h15 h14 h13 h12 h3 h2 h1 h0
      omega
    · intro h
      obtain ⟨h15, h14, h13, h12⟩ := (nib3 x 0 1 1 0 (by simp) (by simp) (by simp) (by simp)).2 (by omega)
      obtain ⟨h3, h2, h1, h0⟩ := (nib0 x 0 0 1 1 (by simp) (by simp) (by simp) (by simp)).2 (by omega)
      exact ⟨⟨⟨⟨⟨⟨⟨h15, h14⟩, h13⟩, h12⟩, h3⟩, h2⟩, h1⟩, h0⟩
  all_goals (simp; try omega)

theorem txt_6 : txtBits ((6 : Nat) : Int) = [48, 48, 49, 49, 110, 110, 110, 110, 109, 109, 109, 109, 49, 49, 48, 48] := by decide +kernel
theorem landx_6 (x : Nat) (hx : x < 65536) : Nat.land x 18446744073709547535 = x % 16 + 0 + 0 + 4096 * (x / 4096 % 16) := by
  rw [land16 x, land16 (x / 16), land16 (x / 16 / 16), land16 (x / 16 / 16 / 16), show x / 16 / 16 / 16 / 16 = 0 by omega, zero_land]
  simp only [Nat.reduceMod, Nat.reduceDiv, land_15, land_0]
  omega
theorem dr_6 (x : Nat) (hx : x < 65536) : decRun (x : Int) (txtBits ((6 : Nat) : Int)) 0 dec0 = ⟨decHit (x : Int) ((6 : Nat) : Int), (x / 256 % 16 : Nat), (x / 16 % 16 : Nat), 0, 0⟩ := by
  rw [txt_6, hit_nat x 6 4080 12300 hx (by decide +kernel) (by decide +kernel) (by decide +kernel) (by decide), show 18446744073709551615 - 4080 = 18446744073709547535 from rfl, landx_6 x hx]
  unfold dec0
  repeat (first | rw [dr48] | rw [dr49] | rw [dr110] | rw [dr109] | rw [dr105])
  rw [drNil, DecSt.mk.injEq]
  refine ⟨?_, ?_, ?_, ?_, ?_⟩
  · rw [Bool.eq_iff_iff, Nat.beq_eq]
    simp only [Bool.and_eq_true, beq_iff_eq, true_and, Nat.reduceAdd, Nat.reduceSub, Int.reducePow]
    constructor
    · rintro ⟨⟨⟨⟨⟨⟨⟨h15, h14⟩, h13⟩, h12⟩, h3⟩, h2⟩, h1⟩, h0⟩
      have n3 := (nib3 x 0 0 1 1 (by simp) (by simp) (by simp) (by simp)).1 ⟨h15, h14, h13, h12⟩
      have n0 := (nib0 x 1 1 0 0 (by simp) (by simp) (by simp) (by simp)).1 ⟨h3, h2, h1, h0⟩
      clear h15 h14 h13 h12 h3 h2 h1 h0
      omega
    · intro h
      obtain ⟨h15, h14, h13, h12⟩ := (nib3 x 0 0 1 1 (by simp) (by simp) (by simp) (by simp)).2 (by omega)
      obtain ⟨h3, h2, h1, h0⟩ := (nib0 x 1 1 0 0 (by simp) (by simp) (by simp) (by simp)).2 (by omega)
      exact ⟨⟨⟨⟨⟨⟨⟨h15, h14⟩, h13⟩, h12⟩, h3⟩, h2⟩, h1⟩, h0⟩
  all_goals (simp; try omega)

theorem txt_7 : txtBits ((7 : Nat) : Int) = [48, 48, 49, 49, 110, 110, 110, 110, 109, 109, 109, 109, 49, 48, 48, 48] := by decide +kernel
theorem landx_7 (x : Nat) (hx : x < 65536) : Nat.land x 18446744073709547535 = x % 16 + 0 + 0 + 4096 * (x / 4096 % 16) := by
  rw [land16 x, land16 (x / 16), land16 (x / 16 / 16), land16 (x / 16 / 16 / 16), show x / 16 / 16 / 16 / 16 = 0 by omega, zero_land]
  simp only [Nat.reduceMod, Nat.reduceDiv, land_15, land_0]
  omega
theorem dr_7 (x : Nat) (hx : x < 65536) : decRun (x : Int) (txtBits ((7 : Nat) : Int)) 0 dec0 = ⟨decHit (x : Int) ((7 : Nat) : Int), (x / 256 % 16 : Nat), (x / 16 % 16 : Nat), 0, 0⟩ := by
  rw [txt_7, hit_nat x 7 4080 12296 hx (by decide +kernel) (by decide +kernel) (by decide +kernel) (by decide), show 18446744073709551615 - 4080 = 18446744073709547535 from rfl, landx_7 x hx]
  unfold dec0
  repeat (first | rw [dr48] | rw [dr49] | rw [dr110] | rw [dr109] | rw [dr105])
  rw [drNil, DecSt.mk.injEq]
  refine ⟨?_, ?_, ?_, ?_, ?_⟩
  · rw [Bool.eq_iff_iff, Nat.beq_eq]
    simp only [Bool.and_eq_true, beq_iff_eq, true_and, Nat.reduceAdd, Nat.reduceSub, Int.reducePow]
    constructor
    · rintro ⟨⟨⟨⟨⟨⟨⟨h15, h14⟩, h13⟩, h12⟩, h3⟩, h2⟩, h1⟩, h0⟩
      have n3 := (nib3 x 0 0 1 1 (by simp) (by simp) (by simp) (by simp)).1 ⟨h15, h14, h13, h12⟩
      have n0 := (nib0 x 1 0 0 0 (by simp) (by simp) (by simp) (by simp)).1 ⟨h3, h2, h1, h0⟩
      clear h15 h14 h13 h12 h3 h2 h1 h0
      omega
    · intro h
      obtain ⟨h15, h14, h13, h12⟩ := (nib3 x 0 0 1 1 (by simp) (by simp) (by simp) (by simp)).2 (by omega)
      obtain ⟨h3, h2, h1, h0⟩ := (nib0 x 1 0 0 0 (by simp) (by simp) (by simp) (by simp)).2 (by omega)
      exact ⟨⟨⟨⟨⟨⟨⟨h15, h14⟩, h13⟩, h12⟩, h3⟩, h2⟩, h1⟩, h0⟩
  all_goals (simp; try omega)

theorem txt_8 : txtBits ((8 : Nat) : Int) = [48, 48, 49, 48, 110, 110, 110, 110, 109, 109, 109, 109, 49, 48, 48, 49] := by decide +kernel
theorem landx_8 (x : Nat) (hx : x < 65536) : Nat.land x 18446744073709547535 = x % 16 + 0 + 0 + 4096 * (x / 4096 % 16) := by
  rw [land16 x, land16 (x / 16), land16 (x / 16 / 16), land16 (x / 16 / 16 / 16), show x / 16 / 16 / 16 / 16 = 0 by omega, zero_land]
  simp only [Nat.reduceMod, Nat.reduceDiv, land_15, land_0]
  omega
theorem dr_8 (x : Nat) (hx : x < 65536) : decRun (x : Int) (txtBits ((8 : Nat) : Int)) 0 dec0 = ⟨decHit (x : Int) ((8 : Nat) : Int), (x / 256 % 16 : Nat), (x / 16 % 16 : Nat), 0, 0⟩ := by
  rw [txt_8, hit_nat x 8 4080 8201 hx (by decide +kernel) (by decide +kernel) (by decide +kernel) (by decide), show 18446744073709551615 - 4080 = 18446744073709547535 from rfl, landx_8 x hx]
  unfold dec0
  repeat (first | rw [dr48] | rw [dr49] | rw [dr110] | rw [dr109] | rw [dr105])
  rw [drNil, DecSt.mk.injEq]
  refine ⟨?_, ?_, ?_, ?_, ?_⟩
  · rw [Bool.eq_iff_iff, Nat.beq_eq]
    simp only [Bool.and_eq_true, beq_iff_eq, true_and, Nat.reduceAdd, Nat.reduceSub, Int.reducePow]
    constructor
    · rintro ⟨⟨⟨⟨⟨⟨⟨h15, h14⟩, h13⟩, h12⟩, h3⟩, h2⟩, h1⟩, h0⟩
      have n3 := (nib3 x 0 0 1 0 (by simp) (by simp) (by simp) (by simp)).1 ⟨h15, h14, h13, h12⟩
      have n0 := (nib0 x 1 0 0 1 (by simp) (by simp) (by simp) (by simp)).1 ⟨h3, h2, h1, h0⟩
      clear h15 h14 h13 h12 h3 h2 h1 h0
      omega
    · intro h
      obtain ⟨h15, h14, h13, h12⟩ := (nib3 x 0 0 1 0 (by simp) (by simp) (by simp) (by simp)).2 (by omega)
      obtain ⟨h3, h2, h1, h0⟩ := (nib0 x 1 0 0 1 (by simp) (by simp) (by simp) (by simp)).2 (by omega)
      exact ⟨⟨⟨⟨⟨⟨⟨h15, h14⟩, h13⟩, h12⟩, h3⟩, h2⟩, h1⟩, h0⟩
  all_goals (simp; try omega)

theorem txt_9 : txtBits ((9 : Nat) : Int) = [48, 48, 49, 48, 110, 110, 110, 110, 109, 109, 109, 109, 49, 48, 49, 49] := by decide +kernel
theorem landx_9 (x : Nat) (hx : x < 65536) : Nat.land x 18446744073709547535 = x % 16 + 0 + 0 + 4096 * (x / 4096 % 16) := by
  rw [land16 x, land16 (x / 16), land16 (x / 16 / 16), land16 (x / 16 / 16 / 16), show x / 16 / 16 / 16 / 16 = 0 by omega, zero_land]
  simp only [Nat.reduceMod, Nat.reduceDiv, land_15, land_0]
  omega
theorem dr_9 (x : Nat) (hx : x < 65536) : decRun (x : Int) (txtBits ((9 : Nat) : Int)) 0 dec0 = ⟨decHit (x : Int) ((9 : Nat) : Int), (x / 256 % 16 : Nat), (x / 16 % 16 : Nat), 0, 0⟩ := by
  rw [txt_9, hit_nat x 9 4080 8203 hx (by decide +kernel) (by decide +kernel) (by decide +kernel) (by decide), show 18446744073709551615 - 4080 = 18446744073709547535 from rfl, landx_9 x hx]
  unfold dec0
  repeat (first | rw [dr48] | rw [dr49] | rw [dr110] | rw [dr109] | rw [dr105])
  rw [drNil, DecSt.mk.injEq]
  refine ⟨?_, ?_, ?_, ?_, ?_⟩
  · rw [Bool.eq_iff_iff, Nat.beq_eq]
    simp only [Bool.and_eq_true, beq_iff_eq, true_and, Nat.reduceAdd, Nat.reduceSub, Int.reducePow]
    constructor
    · rintro ⟨⟨⟨⟨⟨⟨⟨h15, h14⟩, h13⟩, h12⟩, h3⟩, h2⟩, h1⟩, h0⟩
      have n3 := (nib3 x 0 0 1 0 (by simp) (by simp) (by simp) (by simp)).1 ⟨h15, h14, h13, h12⟩
      have n0 := (nib0 x 1 0 1 1 (by simp) (by simp) (by simp) (by simp)).1 ⟨h3, h2, h1, h0⟩
      clear h15 h14 h13 h12 h3 h2 h1 h0
      omega
    · intro h
      obtain ⟨h15, h14, h13, h12⟩ := (nib3 x 0 0 1 0 (by simp) (by simp) (by simp) (by simp)).2 (by omega)
      obtain ⟨h3, h2, h1, h0⟩ := (nib0 x 1 0 1 1 (by simp) (by simp) (by simp) (by simp)).2 (by omega)
      exact ⟨⟨⟨⟨⟨⟨⟨h15, h14⟩, h13⟩, h12⟩, h3⟩, h2⟩, h1⟩, h0⟩
  all_goals (simp; try omega)

theorem txt_10 : txtBits ((10 : Nat) : Int) = [48, 48, 49, 48, 110, 110, 110, 110, 109, 109, 109, 109, 49, 48, 49, 48] := by decide +kernel
theorem landx_10 (x : Nat) (hx : x < 65536) : Nat.land x 18446744073709547535 = x % 16 + 0 + 0 + 4096 * (x / 4096 % 16) := by
  rw [land16 x, land16 (x / 16), land16 (x / 16 / 16), land16 (x / 16 / 16 / 16), show x / 16 / 16 / 16 / 16 = 0 by omega, zero_land]
  simp only [Nat.reduceMod, Nat.reduceDiv, land_15, land_0]
  omega
theorem dr_10 (x : Nat) (hx : x < 65536) : decRun (x : Int) (txtBits ((10 : Nat) : Int)) 0 dec0 = ⟨decHit (x : Int) ((10 : Nat) : Int), (x / 256 % 16 : Nat), (x / 16 % 16 : Nat), 0, 0⟩ := by
  rw [txt_10, hit_nat x 10 4080 8202 hx (by decide +kernel) (by decide +kernel) (by decide +kernel) (by decide), show 18446744073709551615 - 4080 = 18446744073709547535 from rfl, landx_10 x hx]
  unfold dec0
  repeat (first | rw [dr48] | rw [dr49] | rw [dr110] | rw [dr109] | rw [dr105])
  rw [drNil, DecSt.mk.injEq]
  refine ⟨?_, ?_, ?_, ?_, ?_⟩
  · rw [Bool.eq_iff_iff, Nat.beq_eq]
    simp only [Bool.and_eq_true, beq_iff_eq, true_and, Nat.reduceAdd, Nat.reduceSub, Int.reducePow]
    constructor
    · rintro ⟨⟨⟨⟨⟨⟨⟨h15, h14⟩, h13⟩, h12⟩, h3⟩, h2⟩, h1⟩, h0⟩
      have n3 := (nib3 x 0 0 1 0 (by simp) (by simp) (by simp) (by simp)).1 ⟨h15, h14, h13, h12⟩
      have n0 := (nib0 x 1 0 1 0 (by simp) (by simp) (by simp) (by simp)).1 ⟨h3, h2, h1, h0⟩
      clear h15 h14 h13 h12 h3 h2 h1 h0
      omega
    · intro h
      obtain ⟨h15, h14, h13, h12⟩ := (nib3 x 0 0 1 0 (by simp) (by simp) (by simp) (by simp)).2 (by omega)
      obtain ⟨h3, h2, h1, h0⟩ := (nib0 x 1 0 1 0 (by simp) (by simp) (by simp) (by simp)).2 (by omega)
      exact ⟨⟨⟨⟨⟨⟨⟨h15, h14⟩, h13⟩, h12⟩, h3⟩, h2⟩, h1⟩, h0⟩
  all_goals (simp; try omega)

theorem txt_11 : txtBits ((11 : Nat) : Int) = [48, 48, 49, 48, 110, 110, 110, 110, 109, 109, 109, 109, 49, 48, 48, 48] := by decide +kernel
theorem landx_11 (x : Nat) (hx : x < 65536) : Nat.land x 18446744073709547535 = x % 16 + 0 + 0 + 4096 * (x / 4096 % 16) := by
  rw [land16 x, land16 (x / 16), land16 (x / 16 / 16), land16 (x / 16 / 16 / 16), show x / 16 / 16 / 16 / 16 = 0 by omega, zero_land]
  simp only [Nat.reduceMod, Nat.reduceDiv, land_15, land_0]
  omega
theorem dr_11 (x : Nat) (hx : x < 65536) : decRun (x : Int) (txtBits ((11 : Nat) : Int)) 0 dec0 = ⟨decHit (x : Int) ((11 : Nat) : Int), (x / 256 % 16 : Nat), (x / 16 % 16 : Nat), 0, 0⟩ := by
  rw [txt_11, hit_nat x 11 4080 8200 hx (by decide +kernel) (by decide +kernel) (by decide +kernel) (by decide), show 18446744073709551615 - 4080 = 18446744073709547535 from rfl, landx_11 x hx]
  unfold dec0
  repeat (first | rw [dr48] | rw [dr49] | rw [dr110] | rw [dr109] | rw [dr105])
  rw [drNil, DecSt.mk.injEq]
  refine ⟨?_, ?_, ?_, ?_, ?_⟩
  · rw [Bool.eq_iff_iff, Nat.beq_eq]
    simp only [Bool.and_eq_true, beq_iff_eq, true_and, Nat.reduceAdd, Nat.reduceSub, Int.reducePow]
    constructor
    · rintro ⟨⟨⟨⟨⟨⟨⟨h15, h14⟩, h13⟩, h12⟩, h3⟩, h2⟩, h1⟩, h0⟩
      have n3 := (nib3 x 0 0 1 0 (by simp) (by simp) (by simp) (by simp)).1 ⟨h15, h14, h13, h12⟩
      have n0 := (nib0 x 1 0 0 0 (by simp) (by simp) (by simp) (by simp)).1 ⟨h3, h2, h1, h0⟩
      clear h15 h14 h13 h12 h3 h2 h1 h0
      omega
    · intro h
      obtain ⟨h15, h14, h13, h12⟩ := (nib3 x 0 0 1 0 (by simp) (by simp) (by simp) (by simp)).2 (by omega)
      obtain ⟨h3, h2, h1, h0⟩ := (nib0 x 1 0 0 0 (by simp) (by simp) (by simp) (by simp)).2 (by omega)
      exact ⟨⟨⟨⟨⟨⟨⟨h15, h14⟩, h13⟩, h12⟩, h3⟩, h2⟩, h1⟩, h0⟩
  all_goals (simp; try omega)

theorem txt_12 : txtBits ((12 : Nat) : Int) = [48, 48, 49, 49, 110, 110, 110, 110, 109, 109, 109, 109, 48, 48, 48, 48] := by decide +kernel
theorem landx_12 (x : Nat) (hx : x < 65536) : Nat.land x 18446744073709547535 = x % 16 + 0 + 0 + 4096 * (x / 4096 % 16) := by
  rw [land16 x, land16 (x / 16), land16 (x / 16 / 16), land16 (x / 16 / 16 / 16), show x / 16 / 16 / 16 / 16 = 0 by omega, zero_land]
  simp only [Nat.reduceMod, Nat.reduceDiv, land_15, land_0]
  omega
theorem dr_12 (x : Nat) (hx : x < 65536) : decRun (x : Int) (txtBits ((12 : Nat) : Int)) 0 dec0 = ⟨decHit (x : Int) ((12 : Nat) : Int), (x / 256 % 16 : Nat), (x / 16 % 16 : Nat), 0, 0⟩ := by
  rw [txt_12, hit_nat x 12 4080 12288 hx (by decide +kernel) (by decide +kernel) (by decide +kernel) (by decide), show 18446744073709551615 - 4080 = 18446744073709547535 from rfl, landx_12 x hx]
  unfold dec0
  repeat (first | rw [dr48] | rw [dr49] | rw [dr110] | rw [dr109] | rw [dr105])
  rw [drNil, DecSt.mk.injEq]
  refine ⟨?_, ?_, ?_, ?_, ?_⟩
  · rw [Bool.eq_iff_iff, Nat.beq_eq]
    simp only [Bool.and_eq_true, beq_iff_eq, true_and, Nat.reduceAdd, Nat.reduceSub, Int.reducePow]
    constructor
    · rintro ⟨⟨⟨⟨⟨⟨⟨h15, h14⟩, h13⟩, h12⟩, h3⟩, h2⟩, h1⟩, h0⟩
      have n3 := (nib3 x 0 0 1 1 (by simp) (by simp) (by simp) (by simp)).1 ⟨h15, h14, h13, h12⟩
      have n0 := (nib0 x 0 0 0 0 (by simp) (by simp) (by simp) (by simp)).1 ⟨h3, h2, h1, h0⟩
      clear h15 h14 h13 h12 h3 h2 h1 h0
      omega
    · intro h
      obtain ⟨h15, h14, h13, h12⟩ := (nib3 x 0 0 1 1 (by simp) (by simp) (by simp) (by simp)).2 (by omega)
      obtain ⟨h3, h2, h1, h0⟩ := (nib0 x 0 0 0 0 (by simp) (by simp) (by simp) (by simp)).2 (by omega)
      exact ⟨⟨⟨⟨⟨⟨⟨h15, h14⟩, h13⟩, h12⟩, h3⟩, h2⟩, h1⟩, h0⟩
  all_goals (simp; try omega)

theorem txt_13 : txtBits ((13 : Nat) : Int) = [48, 48, 49, 49, 110, 110, 110, 110, 109, 109, 109, 109, 48, 49, 49, 49] := by decide +kernel
theorem landx_13 (x : Nat) (hx : x < 65536) : Nat.land x 18446744073709547535 = x % 16 + 0 + 0 + 4096 * (x / 4096 % 16) := by
  rw [land16 x, land16 (x / 16), land16 (x / 16 / 16), land16 (x / 16 / 16 / 16), show x / 16 / 16 / 16 / 16 = 0 by omega, zero_land]
  simp only [Nat.reduceMod, Nat.reduceDiv, land_15, land_0]
  omega
theorem dr_13 (x : Nat) (hx : x < 65536) : decRun (x : Int) (txtBits ((13 : Nat) : Int)) 0 dec0 = ⟨decHit (x : Int) ((13 : Nat) : Int), (x / 256 % 16 : Nat), (x / 16 % 16 : Nat), 0, 0⟩ := by
  rw [txt_13, hit_nat x 13 4080 12295 hx (by decide +kernel) (by decide +kernel) (by decide +kernel) (by decide), show 18446744073709551615 - 4080 = 18446744073709547535 from rfl, landx_13 x hx]
  unfold dec0
  repeat (first | rw [dr48] | rw [dr49] | rw [dr110] | rw [dr109] | rw [dr105])
  rw [drNil, DecSt.mk.injEq]
  refine ⟨?_, ?_, ?_, ?_, ?_⟩
  · rw [Bool.eq_iff_iff, Nat.beq_eq]
    simp only [Bool.and_eq_true, beq_iff_eq, true_and, Nat.reduceAdd, Nat.reduceSub, Int.reducePow]
    constructor
    · rintro ⟨⟨⟨⟨⟨⟨⟨h15, h14⟩, h13⟩, h12⟩, h3⟩, h2⟩, h1⟩, h0⟩
      have n3 := (nib3 x 0 0 1 1 (by simp) (by simp) (by simp) (by simp)).1 ⟨h15, h14, h13, h12⟩
      have n0 := (nib0 x 0 1 1 1 (by simp) (by simp) (by simp) (by simp)).1 ⟨h3, h2, h1, h0⟩
      clear h15 h14 h13 h12 h3 h2 h1 h0
      omega
    · intro h
      obtain ⟨h15, h14, h13, h12⟩ := (nib3 x 0 0 1 1 (by simp) (by simp) (by simp) (by simp)).2 (by omega)
      obtain ⟨h3, h2, h1, h0⟩ := (nib0 x 0 1 1 1 (by simp) (by simp) (by simp) (by simp)).2 (by omega)
      exact ⟨⟨⟨⟨⟨⟨⟨h15, h14⟩, h13⟩, h12⟩, h3⟩, h2⟩, h1⟩, h0⟩
  all_goals (simp; try omega)

theorem txt_14 : txtBits ((14 : Nat) : Int) = [48, 49, 48, 48, 110, 110, 110, 110, 48, 48, 48, 48, 48, 48, 48, 48] := by decide +kernel
theorem landx_14 (x : Nat) (hx : x < 65536) : Nat.land x 18446744073709547775 = x % 16 + 16 * (x / 16 % 16) + 0 + 4096 * (x / 4096 % 16) := by
  rw [land16 x, land16 (x / 16), land16 (x / 16 / 16), land16 (x / 16 / 16 / 16), show x / 16 / 16 / 16 / 16 = 0 by omega, zero_land]
  simp only [Nat.reduceMod, Nat.reduceDiv, land_15, land_0]
  omega
theorem dr_14 (x : Nat) (hx : x < 65536) : decRun (x : Int) (txtBits ((14 : Nat) : Int)) 0 dec0 = ⟨decHit (x : Int) ((14 : Nat) : Int), (x / 256 % 16 : Nat), 0, 0, 0⟩ := by
  rw [txt_14, hit_nat x 14 3840 16384 hx (by decide +kernel) (by decide +kernel) (by decide +kernel) (by decide), show 18446744073709551615 - 3840 = 18446744073709547775 from rfl, landx_14 x hx]
  unfold dec0
  repeat (first | rw [dr48] | rw [dr49] | rw [dr110] | rw [dr109] | rw [dr105])
  rw [drNil, DecSt.mk.injEq]
  refine ⟨?_, ?_, ?_, ?_, ?_⟩
  · rw [Bool.eq_iff_iff, Nat.beq_eq]
    simp only [Bool.and_eq_true, beq_iff_eq, true_and, Nat.reduceAdd, Nat.reduceSub, Int.reducePow]
    constructor
    · rintro ⟨⟨⟨⟨⟨⟨⟨⟨⟨⟨⟨h15, h14⟩, h13⟩, h12⟩, h7⟩, h6⟩, h5⟩, h4⟩, h3⟩, h2⟩, h1⟩, h0⟩
      have n3 := (nib3 x 0 1 0 0 (by simp) (by simp) (by simp) (by simp)).1 ⟨h15, h14, h13, h12⟩
      have n1 := (nib1 x 0 0 0 0 (by simp) (by simp) (by simp) (by simp)).1 ⟨h7, h6, h5, h4⟩
      have n0 := (nib0 x 0 0 0 0 (by simp) (by simp) (by simp) (by simp)).1 ⟨h3, h2, h1, h0⟩
      clear h15 h14 h13 h12 h7 h6 h5 h4 h3 h2 h1 h0
      omega
    · intro h
      obtain ⟨h15, h14, h13, h12⟩ := (nib3 x 0 1 0 0 (by simp) (by simp) (by simp) (by simp)).2 (by omega)
      obtain ⟨h7, h6, h5, h4⟩ := (nib1 x 0 0 0 0 (by simp) (by simp) (by simp) (by simp)).2 (by omega)
      obtain ⟨h3, h2, h1, h0⟩ := (nib0 x 0 0 0 0 (by simp) (by simp) (by simp) (by simp)).2 (by omega)
      exact ⟨⟨⟨⟨⟨⟨⟨⟨⟨⟨⟨h15, h14⟩, h13⟩, h12⟩, h7⟩, h6⟩, h5⟩, h4⟩, h3⟩, h2⟩, h1⟩, h0⟩
  all_goals (simp; try omega)

theorem txt_15 : txtBits ((15 : Nat) : Int) = [48, 49, 48, 48, 110, 110, 110, 110, 48, 48, 48, 48, 48, 48, 48, 49] := by decide +kernel
theorem landx_15 (x : Nat) (hx : x < 65536) : Nat.land x 18446744073709547775 = x % 16 + 16 * (x / 16 % 16) + 0 + 4096 * (x / 4096 % 16) := by
  rw [land16 x, land16 (x / 16), land16 (x / 16 / 16), land16 (x / 16 / 16 / 16), show x / 16 / 16 / 16 / 16 = 0 by omega, zero_land]
  simp only [Nat.reduceMod, Nat.reduceDiv, land_15, land_0]
  omega
theorem dr_15 (x : Nat) (hx : x < 65536) : decRun (x : Int) (txtBits ((15 : Nat) : Int)) 0 dec0 = ⟨decHit (x : Int) ((15 : Nat) : Int), (x / 256 % 16 : Nat), 0, 0, 0⟩ := by
  rw [txt_15, hit_nat x 15 3840 16385 hx (by decide +kernel) (by decide +kernel) (by decide +kernel) (by decide), show 18446744073709551615 - 3840 = 18446744073709547775 from rfl, landx_15 x hx]
  unfold dec0
  repeat (first | rw [dr48] | rw [dr49] | rw [dr110] | rw [dr109] | rw [dr105])
  rw [drNil, DecSt.mk.injEq]
  refine ⟨?_, ?_, ?_, ?_, ?_⟩
  · rw [Bool.eq_iff_iff, Nat.beq_eq]
    simp only [Bool.and_eq_true, beq_iff_eq, true_and, Nat.reduceAdd, Nat.reduceSub, Int.reducePow]
    constructor
    · rintro ⟨⟨⟨⟨⟨⟨⟨⟨⟨⟨⟨h15, h14⟩, h13⟩, h12⟩, h7⟩, h6⟩, h5⟩, h4⟩, h3⟩, h2⟩, h1⟩, h0⟩
      have n3 := (nib3 x 0 1 0 0 (by simp) (by simp) (by simp) (by simp)).1 ⟨h15, h14, h13, h12⟩
      have n1 := (nib1 x 0 0 0 0 (by simp) (by simp) (by simp) (by simp)).1 ⟨h7, h6, h5, h4⟩
      have n0 := (nib0 x 0 0 0 1 (by simp) (by simp) (by simp) (by simp)).1 ⟨h3, h2, h1, h0⟩
      clear h15 h14 h13 h12 h7 h6 h5 h4 h3 h2 h1 h0
      omega
    · intro h
      obtain ⟨h15, h14, h13, h12⟩ := (nib3 x 0 1 0 0 (by simp) (by simp) (by simp) (by simp)).2 (by omega)
      obtain ⟨h7, h6, h5, h4⟩ := (nib1 x 0 0 0 0 (by simp) (by simp) (by simp) (by simp)).2 (by omega)
      obtain ⟨h3, h2, h1, h0⟩ := (nib0 x 0 0 0 1 (by simp) (by simp) (by simp) (by simp)).2 (by omega)
      exact ⟨⟨⟨⟨⟨⟨⟨⟨⟨⟨⟨h15, h14⟩, h13⟩, h12⟩, h7⟩, h6⟩, h5⟩, h4⟩, h3⟩, h2⟩, h1⟩, h0⟩
  all_goals (simp; try omega)

theorem txt_16 : txtBits ((16 : Nat) : Int) = [48, 49, 48, 48, 110, 110, 110, 110, 48, 48, 48, 49, 48, 48, 48, 48] := by decide +kernel
theorem landx_16 (x : Nat) (hx : x < 65536) : Nat.land x 18446744073709547775 = x % 16 + 16 * (x / 16 % 16) + 0 + 4096 * (x / 4096 % 16) := by
  rw [land16 x, land16 (x / 16), land16 (x / 16 / 16), land16 (x / 16 / 16 / 16), show x / 16 / 16 / 16 / 16 = 0 by omega, zero_land]
  simp only [Nat.reduceMod, Nat.reduceDiv, land_15, land_0]
  omega
theorem dr_16 (x : Nat) (hx : x < 65536) : decRun (x : Int) (txtBits ((16 : Nat) : Int)) 0 dec0 = ⟨decHit (x : Int) ((16 : Nat) : Int), (x / 256 % 16 : Nat), 0, 0, 0⟩ := by
  rw [txt_16, hit_nat x 16 3840 16400 hx (by decide +kernel) (by decide +kernel) (by decide +kernel) (by decide), show 18446744073709551615 - 3840 = 18446744073709547775 from rfl, landx_16 x hx]
  unfold dec0
  repeat (first | rw [dr48] | rw [dr49] | rw [dr110] | rw [dr109] | rw [dr105])
  rw [drNil, DecSt.mk.injEq]
  refine ⟨?_, ?_, ?_, ?_, ?_⟩
  · rw [Bool.eq_iff_iff, Nat.beq_eq]
    simp only [Bool.and_eq_true, beq_iff_eq, true_and, Nat.reduceAdd, Nat.reduceSub, Int.reducePow]
    constructor
    · rintro ⟨⟨⟨⟨⟨⟨⟨⟨⟨⟨⟨h15, h14⟩, h13⟩, h12⟩, h7⟩, h6⟩, h5⟩, h4⟩, h3⟩, h2⟩, h1⟩, h0⟩
      have n3 := (nib3 x 0 1 0 0 (by simp) (by simp) (by simp) (by simp)).1 ⟨h15, h14, h13, h12⟩
      have n1 := (nib1 x 0 0 0 1 (by simp) (by simp) (by simp) (by simp)).1 ⟨h7, h6, h5, h4⟩
      have n0 := (nib0 x 0 0 0 0 (by simp) (by simp) (by simp) (by simp)).1 ⟨h3, h2, h1, h0⟩
      clear h15 h14 h13 h12 h7 h6 h5 h4 h3 h2 h1 h0
      omega
    · intro h
      obtain ⟨h15, h14, h13, h12⟩ := (nib3 x 0 1 0 0 (by simp) (by simp) (by simp) (by simp)).2 (by omega)
      obtain ⟨h7, h6, h5, h4⟩ := (nib1 x 0 0 0 1 (by simp) (by simp) (by simp) (by simp)).2 (by omega)
      obtain ⟨h3, h2, h1, h0⟩ := (nib0 x 0 0 0 0 (by simp) (by simp) (by simp) (by simp)).2 (by omega)
      exact ⟨⟨⟨⟨⟨⟨⟨⟨⟨⟨⟨h15, h14⟩, h13⟩, h12⟩, h7⟩, h6⟩, h5⟩, h4⟩, h3⟩, h2⟩, h1⟩, h0⟩
  all_goals (simp; try omega)

theorem txt_17 : txtBits ((17 : Nat) : Int) = [49, 48, 48, 48, 49, 48, 48, 49, 105, 105, 105, 105, 105, 105, 105, 105] := by decide +kernel
theorem landx_17 (x : Nat) (hx : x < 65536) : Nat.land x 18446744073709551360 = 0 + 0 + 256 * (x / 256 % 16) + 4096 * (x / 4096 % 16) := by
  rw [land16 x, land16 (x / 16), land16 (x / 16 / 16), land16 (x / 16 / 16 / 16), show x / 16 / 16 / 16 / 16 = 0 by omega, zero_land]
  simp only [Nat.reduceMod, Nat.reduceDiv, land_15, land_0]
  omega
theorem dr_17 (x : Nat) (hx : x < 65536) : decRun (x : Int) (txtBits ((17 : Nat) : Int)) 0 dec0 = ⟨decHit (x : Int) ((17 : Nat) : Int), 0, 0, (x % 256 : Nat), 8⟩ := by
  rw [txt_17, hit_nat x 17 255 35072 hx (by decide +kernel) (by decide +kernel) (by decide +kernel) (by decide), show 18446744073709551615 - 255 = 18446744073709551360 from rfl, landx_17 x hx]
  unfold dec0
  repeat (first | rw [dr48] | rw [dr49] | rw [dr110] | rw [dr109] | rw [dr105])
  rw [drNil, DecSt.mk.injEq]
  refine ⟨?_, ?_, ?_, ?_, ?_⟩
  · rw [Bool.eq_iff_iff, Nat.beq_eq]
    simp only [Bool.and_eq_true, beq_iff_eq, true_and, Nat.reduceAdd, Nat.reduceSub, Int.reducePow]
    constructor
    · rintro ⟨⟨⟨⟨⟨⟨⟨h15, h14⟩, h13⟩, h12⟩, h11⟩, h10⟩, h9⟩, h8⟩
      have n3 := (nib3 x 1 0 0 0 (by simp) (by simp) (by simp) (by simp)).1 ⟨h15, h14, h13, h12⟩
      have n2 := (nib2 x 1 0 0 1 (by simp) (by simp) (by simp) (by simp)).1 ⟨h11, h10, h9, h8⟩
      clear h15 h14 h13 h12 h11 h10 h9 h8
      omega
    · intro h
      obtain ⟨h15, h14, h13, h12⟩ := (nib3 x 1 0 0 0 (by simp) (by simp) (by simp) (by simp)).2 (by omega)
      obtain ⟨h11, h10, h9, h8⟩ := (nib2 x 1 0 0 1 (by simp) (by simp) (by simp) (by simp)).2 (by omega)
      exact ⟨⟨⟨⟨⟨⟨⟨h15, h14⟩, h13⟩, h12⟩, h11⟩, h10⟩, h9⟩, h8⟩
  all_goals (simp; try omega)

theorem txt_18 : txtBits ((18 : Nat) : Int) = [49, 48, 48, 48, 49, 48, 49, 49, 105, 105, 105, 105, 105, 105, 105, 105] := by decide +kernel
theorem landx_18 (x : Nat) (hx : x < 65536) : Nat.land x 18446744073709551360 = 0 + 0 + 256 * (x / 256 % 16) + 4096 * (x / 4096 % 16) := by
  rw [land16 x, land16 (x / 16), land16 (x / 16 / 16), land16 (x / 16 / 16 / 16), show x / 16 / 16 / 16 / 16 = 0 by omega, zero_land]
  simp only [Nat.reduceMod, Nat.reduceDiv, land_15, land_0]
  omega
theorem dr_18 (x : Nat) (hx : x < 65536) : decRun (x : Int) (txtBits ((18 : Nat) : Int)) 0 dec0 = ⟨decHit (x : Int) ((18 : Nat) : Int), 0, 0, (x % 256 : Nat), 8⟩ := by
  rw [txt_18, hit_nat x 18 255 35584 hx (by decide +kernel) (by decide +kernel) (by decide +kernel) (by decide), show 18446744073709551615 - 255 = 18446744073709551360 from rfl, landx_18 x hx]
  unfold dec0
  repeat (first | rw [dr48] | rw [dr49] | rw [dr110] | rw [dr109] | rw [dr105])
  rw [drNil, DecSt.mk.injEq]
  refine ⟨?_, ?_, ?_, ?_, ?_⟩
  · rw [Bool.eq_iff_iff, Nat.beq_eq]
    simp only [Bool.and_eq_true, beq_iff_eq, true_and, Nat.reduceAdd, Nat.reduceSub, Int.reducePow]
    constructor
    · rintro ⟨⟨⟨⟨⟨⟨⟨h15, h14⟩, h13⟩, h12⟩, h11⟩, h10⟩, h9⟩, h8⟩
      have n3 := (nib3 x 1 0 0 0 (by simp) (by simp) (by simp) (by simp)).1 ⟨h15, h14, h13, h12⟩
      have n2 := (nib2 x 1 0 1 1 (by simp) (by simp) (by simp) (by simp)).1 ⟨h11, h10, h9, h8⟩
      clear h15 h14 h13 h12 h11 h10 h9 h8
      omega
    · intro h
      obtain ⟨h15, h14, h13, h12⟩ := (nib3 x 1 0 0 0 (by simp) (by simp) (by simp) (by simp)).2 (by omega)
      obtain ⟨h11, h10, h9, h8⟩ := (nib2 x 1 0 1 1 (by simp) (by simp) (by simp) (by simp)).2 (by omega)
      exact ⟨⟨⟨⟨⟨⟨⟨h15, h14⟩, h13⟩, h12⟩, h11⟩, h10⟩, h9⟩, h8⟩
  all_goals (simp; try omega)

theorem txt_19 : txtBits ((19 : Nat) : Int) = [49, 48, 49, 48, 105, 105, 105, 105, 105, 105, 105, 105, 105, 105, 105, 105] := by decide +kernel
theorem landx_19 (x : Nat) (hx : x < 65536) : Nat.land x 18446744073709547520 = 0 + 0 + 0 + 4096 * (x / 4096 % 16) := by
  rw [land16 x, land16 (x / 16), land16 (x / 16 / 16), land16 (x / 16 / 16 / 16), show x / 16 / 16 / 16 / 16 = 0 by omega, zero_land]
  simp only [Nat.reduceMod, Nat.reduceDiv, land_15, land_0]
  omega
set_option maxHeartbeats 2000000 in
theorem dr_19 (x : Nat) (hx : x < 65536) : decRun (x : Int) (txtBits ((19 : Nat) : Int)) 0 dec0 = ⟨decHit (x : Int) ((19 : Nat) : Int), 0, 0, (x % 4096 : Nat), 12⟩ := by
  rw [txt_19, hit_nat x 19 4095 40960 hx (by decide +kernel) (by decide +kernel) (by decide +kernel) (by decide), show 18446744073709551615 - 4095 = 18446744073709547520 from rfl, landx_19 x hx]
  unfold dec0
  repeat (first | rw [dr48] | rw [dr49] | rw [dr110] | rw [dr109] | rw [dr105])
  rw [drNil, DecSt.mk.injEq]
  refine ⟨?_, ?_, ?_, ?_, ?_⟩
  · rw [Bool.eq_iff_iff, Nat.beq_eq]
    simp only [Bool.and_eq_true, beq_iff_eq, true_and, Nat.reduceAdd, Nat.reduceSub, Int.reducePow]
    constructor
    · rintro ⟨⟨⟨h15, h14⟩, h13⟩, h12⟩
      have n3 := (nib3 x 1 0 1 0 (by simp) (by simp) (by simp) (by simp)).1 ⟨h15, h14, h13, h12⟩
      clear h15 h14 h13 h12
      omega
    · intro h
      obtain ⟨h15, h14, h13, h12⟩ := (nib3 x 1 0 1 0 (by simp) (by simp) (by simp) (by simp)).2 (by omega)
      exact ⟨⟨⟨h15, h14⟩, h13⟩, h12⟩
  all_goals (simp; try omega)

theorem txt_20 : txtBits ((20 : Nat) : Int) = [49, 48, 49, 49, 105, 105, 105, 105, 105, 105, 105, 105, 105, 105, 105, 105] := by decide +kernel
theorem landx_20 (x : Nat) (hx : x < 65536) : Nat.land x 18446744073709547520 = 0 + 0 + 0 + 4096 * (x / 4096 % 16) := by
  rw [land16 x, land16 (x / 16), land16 (x / 16 / 16), land16 (x / 16 / 16 / 16), show x / 16 / 16 / 16 / 16 = 0 by omega, zero_land]
  simp only [Nat.reduceMod, Nat.reduceDiv, land_15, land_0]
  omega
set_option maxHeartbeats 2000000 in
theorem dr_20 (x : Nat) (hx : x < 65536) : decRun (x : Int) (txtBits ((20 : Nat) : Int)) 0 dec0 = ⟨decHit (x : Int) ((20 : Nat) : Int), 0, 0, (x % 4096 : Nat), 12⟩ := by
  rw [txt_20, hit_nat x 20 4095 45056 hx (by decide +kernel) (by decide +kernel) (by decide +kernel) (by decide), show 18446744073709551615 - 4095 = 18446744073709547520 from rfl, landx_20 x hx]
  unfold dec0
  repeat (first | rw [dr48] | rw [dr49] | rw [dr110] | rw [dr109] | rw [dr105])
  rw [drNil, DecSt.mk.injEq]
  refine ⟨?_, ?_, ?_, ?_, ?_⟩
  · rw [Bool.eq_iff_iff, Nat.beq_eq]
    simp only [Bool.and_eq_true, beq_iff_eq, true_and, Nat.reduceAdd, Nat.reduceSub, Int.reducePow]
    constructor
    · rintro ⟨⟨⟨h15, h14⟩, h13⟩, h12⟩
      have n3 := (nib3 x 1 0 1 1 (by simp) (by simp) (by simp) (by simp)).1 ⟨h15, h14, h13, h12⟩
      clear h15 h14 h13 h12
      omega
    · intro h
      obtain ⟨h15, h14, h13, h12⟩ := (nib3 x 1 0 1 1 (by simp) (by simp) (by simp) (by simp)).2 (by omega)
      exact ⟨⟨⟨h15, h14⟩, h13⟩, h12⟩
  all_goals (simp; try omega)

theorem txt_21 : txtBits ((21 : Nat) : Int) = [48, 49, 48, 48, 110, 110, 110, 110, 48, 48, 49, 48, 49, 48, 49, 49] := by decide +kernel
theorem landx_21 (x : Nat) (hx : x < 65536) : Nat.land x 18446744073709547775 = x % 16 + 16 * (x / 16 % 16) + 0 + 4096 * (x / 4096 % 16) := by
  rw [land16 x, land16 (x / 16), land16 (x / 16 / 16), land16 (x / 16 / 16 / 16), show x / 16 / 16 / 16 / 16 = 0 by omega, zero_land]
  simp only [Nat.reduceMod, Nat.reduceDiv, land_15, land_0]
  omega
theorem dr_21 (x : Nat) (hx : x < 65536) : decRun (x : Int) (txtBits ((21 : Nat) : Int)) 0 dec0 = ⟨decHit (x : Int) ((21 : Nat) : Int), (x / 256 % 16 : Nat), 0, 0, 0⟩ := by
  rw [txt_21, hit_nat x 21 3840 16427 hx (by decide +kernel) (by decide +kernel) (by decide +kernel) (by decide), show 18446744073709551615 - 3840 = 18446744073709547775 from rfl, landx_21 x hx]
  unfold dec0
  repeat (first | rw [dr48] | rw [dr49] | rw [dr110] | rw [dr109] | rw [dr105])
  rw [drNil, DecSt.mk.injEq]
  refine ⟨?_, ?_, ?_, ?_, ?_⟩
  · rw [Bool.eq_iff_iff, Nat.beq_eq]
    simp only [Bool.and_eq_true, beq_iff_eq, true_and, Nat.reduceAdd, Nat.reduceSub, Int.reducePow]
    constructor
    · rintro ⟨⟨⟨⟨⟨⟨⟨⟨⟨⟨⟨h15, h14⟩, h13⟩, h12⟩, h7⟩, h6⟩, h5⟩, h4⟩, h3⟩, h2⟩, h1⟩, h0⟩
      have n3 := (nib3 x 0 1 0 0 (by simp) (by simp) (by simp) (by simp)).1 ⟨h15, h14, h13, h12⟩
      have n1 := (nib1 x 0 0 1 0 (by simp) (by simp) (by simp) (by simp)).1 ⟨h7, h6, h5, h4⟩
      have n0 := (nib0 x 1 0 1 1 (by simp) (by simp) (by simp) (by simp)).1 ⟨h3, h2, h1, h0⟩
      clear h15 h14 h13 h12 h7 h6 h5 h4 h3 h2 h1 h0
      omega
    · intro h
      obtain ⟨h15, h14, h13, h12⟩ := (nib3 x 0 1 0 0 (by simp) (by simp) (by simp) (by simp)).2 (by omega)
      obtain ⟨h7, h6, h5, h4⟩ := (nib1 x 0 0 1 0 (by simp) (by simp) (by simp) (by simp)).2 (by omega)
      obtain ⟨h3, h2, h1, h0⟩ := (nib0 x 1 0 1 1 (by simp) (by simp) (by simp) (by simp)).2 (by omega)
      exact ⟨⟨⟨⟨⟨⟨⟨⟨⟨⟨⟨h15, h14⟩, h13⟩, h12⟩, h7⟩, h6⟩, h5⟩, h4⟩, h3⟩, h2⟩, h1⟩, h0⟩
  all_goals (simp; try omega)

theorem txt_22 : txtBits ((22 : Nat) : Int) = [48, 49, 48, 48, 110, 110, 110, 110, 48, 48, 48, 48, 49, 48, 49, 49] := by decide +kernel
theorem landx_22 (x : Nat) (hx : x < 65536) : Nat.land x 18446744073709547775 = x % 16 + 16 * (x / 16 % 16) + 0 + 4096 * (x / 4096 % 16) := by
  rw [land16 x, land16 (x / 16), land16 (x / 16 / 16), land16 (x / 16 / 16 / 16), show x / 16 / 16 / 16 / 16 = 0 by omega, zero_land]
  simp only [Nat.reduceMod, Nat.reduceDiv, land_15, land_0]
  omega
theorem dr_22 (x : Nat) (hx : x < 65536) : decRun (x : Int) (txtBits ((22 : Nat) : Int)) 0 dec0 = ⟨decHit (x : Int) ((22 : Nat) : Int), (x / 256 % 16 : Nat), 0, 0, 0⟩ := by
  rw [txt_22, hit_nat x 22 3840 16395 hx (by decide +kernel) (by decide +kernel) (by decide +kernel) (by decide), show 18446744073709551615 - 3840 = 18446744073709547775 from rfl, landx_22 x hx]
  unfold dec0
  repeat (first | rw [dr48] | rw [dr49] | rw [dr110] | rw [dr109] | rw [dr105])
  rw [drNil, DecSt.mk.injEq]
  refine ⟨?_, ?_, ?_, ?_, ?_⟩
  · rw [Bool.eq_iff_iff, Nat.beq_eq]
    simp only [Bool.and_eq_true, beq_iff_eq, true_and, Nat.reduceAdd, Nat.reduceSub, Int.reducePow]
    constructor
    · rintro ⟨⟨⟨⟨⟨⟨⟨⟨⟨⟨⟨h15, h14⟩, h13⟩, h12⟩, h7⟩, h6⟩, h5⟩, h4⟩, h3⟩, h2⟩, h1⟩, h0⟩
      have n3 := (nib3 x 0 1 0 0 (by simp) (by simp) (by simp) (by simp)).1 ⟨h15, h14, h13, h12⟩
      have n1 := (nib1 x 0 0 0 0 (by simp) (by simp) (by simp) (by simp)).1 ⟨h7, h6, h5, h4⟩
      have n0 := (nib0 x 1 0 1 1 (by simp) (by simp) (by simp) (by simp)).1 ⟨h3, h2, h1, h0⟩
      clear h15 h14 h13 h12 h7 h6 h5 h4 h3 h2 h1 h0
      omega
    · intro h
      obtain ⟨h15, h14, h13, h12⟩ := (nib3 x 0 1 0 0 (by simp) (by simp) (by simp) (by simp)).2 (by omega)
      obtain ⟨h7, h6, h5, h4⟩ := (nib1 x 0 0 0 0 (by simp) (by simp) (by simp) (by simp)).2 (by omega)
      obtain ⟨h3, h2, h1, h0⟩ := (nib0 x 1 0 1 1 (by simp) (by simp) (by simp) (by simp)).2 (by omega)
      exact ⟨⟨⟨⟨⟨⟨⟨⟨⟨⟨⟨h15, h14⟩, h13⟩, h12⟩, h7⟩, h6⟩, h5⟩, h4⟩, h3⟩, h2⟩, h1⟩, h0⟩
  all_goals (simp; try omega)

theorem txt_23 : txtBits ((23 : Nat) : Int) = [49, 48, 48, 49, 110, 110, 110, 110, 105, 105, 105, 105, 105, 105, 105, 105] := by decide +kernel
theorem landx_23 (x : Nat) (hx : x < 65536) : Nat.land x 18446744073709547520 = 0 + 0 + 0 + 4096 * (x / 4096 % 16) := by
  rw [land16 x, land16 (x / 16), land16 (x / 16 / 16), land16 (x / 16 / 16 / 16), show x / 16 / 16 / 16 / 16 = 0 by omega, zero_land]
  simp only [Nat.reduceMod, Nat.reduceDiv, land_15, land_0]
  omega
theorem dr_23 (x : Nat) (hx : x < 65536) : decRun (x : Int) (txtBits ((23 : Nat) : Int)) 0 dec0 = ⟨decHit (x : Int) ((23 : Nat) : Int), (x / 256 % 16 : Nat), 0, (x % 256 : Nat), 8⟩ := by
  rw [txt_23, hit_nat x 23 4095 36864 hx (by decide +kernel) (by decide +kernel) (by decide +kernel) (by decide), show 18446744073709551615 - 4095 = 18446744073709547520 from rfl, landx_23 x hx]
  unfold dec0
  repeat (first | rw [dr48] | rw [dr49] | rw [dr110] | rw [dr109] | rw [dr105])
  rw [drNil, DecSt.mk.injEq]
  refine ⟨?_, ?_, ?_, ?_, ?_⟩
  · rw [Bool.eq_iff_iff, Nat.beq_eq]
    simp only [Bool.and_eq_true, beq_iff_eq, true_and, Nat.reduceAdd, Nat.reduceSub, Int.reducePow]
    constructor
    · rintro ⟨⟨⟨h15, h14⟩, h13⟩, h12⟩
      have n3 := (nib3 x 1 0 0 1 (by simp) (by simp) (by simp) (by simp)).1 ⟨h15, h14, h13, h12⟩
      clear h15 h14 h13 h12
      omega
    · intro h
      obtain ⟨h15, h14, h13, h12⟩ := (nib3 x 1 0 0 1 (by simp) (by simp) (by simp) (by simp)).2 (by omega)
      exact ⟨⟨⟨h15, h14⟩, h13⟩, h12⟩
  all_goals (simp; try omega)

theorem txt_24 : txtBits ((24 : Nat) : Int) = [49, 49, 48, 49, 110, 110, 110, 110, 105, 105, 105, 105, 105, 105, 105, 105] := by decide +kernel
theorem landx_24 (x : Nat) (hx : x < 65536) : Nat.land x 18446744073709547520 = 0 + 0 + 0 + 4096 * (x / 4096 % 16) := by
  rw [land16 x, land16 (x / 16), land16 (x / 16 / 16), land16 (x / 16 / 16 / 16), show x / 16 / 16 / 16 / 16 = 0 by omega, zero_land]
  simp only [Nat.reduceMod, Nat.reduceDiv, land_15, land_0]
  omega
theorem dr_24 (x : Nat) (hx : x < 65536) : decRun (x : Int) (txtBits ((24 : Nat) : Int)) 0 dec0 = ⟨decHit (x : Int) ((24 : Nat) : Int), (x / 256 % 16 : Nat), 0, (x % 256 : Nat), 8⟩ := by
  rw [txt_24, hit_nat x 24 4095 53248 hx (by decide +kernel) (by decide +kernel) (by decide +kernel) (by decide), show 18446744073709551615 - 4095 = 18446744073709547520 from rfl, landx_24 x hx]
  unfold dec0
  repeat (first | rw [dr48] | rw [dr49] | rw [dr110] | rw [dr109] | rw [dr105])
  rw [drNil, DecSt.mk.injEq]
  refine ⟨?_, ?_, ?_, ?_, ?_⟩
  · rw [Bool.eq_iff_iff, Nat.beq_eq]
    simp only [Bool.and_eq_true, beq_iff_eq, true_and, Nat.reduceAdd, Nat.reduceSub, Int.reducePow]
    constructor
    · rintro ⟨⟨⟨h15, h14⟩, h13⟩, h12⟩
      have n3 := (nib3 x 1 1 0 1 (by simp) (by simp) (by simp) (by simp)).1 ⟨h15, h14, h13, h12⟩
      clear h15 h14 h13 h12
      omega
    · intro h
      obtain ⟨h15, h14, h13, h12⟩ := (nib3 x 1 1 0 1 (by simp) (by simp) (by simp) (by simp)).2 (by omega)
      exact ⟨⟨⟨h15, h14⟩, h13⟩, h12⟩
  all_goals (simp; try omega)

theorem txt_25 : txtBits ((25 : Nat) : Int) = [48, 48, 49, 48, 110, 110, 110, 110, 109, 109, 109, 109, 48, 48, 49, 48] := by decide +kernel
theorem landx_25 (x : Nat) (hx : x < 65536) : Nat.land x 18446744073709547535 = x % 16 + 0 + 0 + 4096 * (x / 4096 % 16) := by
  rw [land16 x, land16 (x / 16), land16 (x / 16 / 16), land16 (x / 16 / 16 / 16), show x / 16 / 16 / 16 / 16 = 0 by omega, zero_land]
  simp only [Nat.reduceMod, Nat.reduceDiv, land_15, land_0]
  omega
theorem dr_25 (x : Nat) (hx : x < 65536) : decRun (x : Int) (txtBits ((25 : Nat) : Int)) 0 dec0 = ⟨decHit (x : Int) ((25 : Nat) : Int), (x / 256 % 16 : Nat), (x / 16 % 16 : Nat), 0, 0⟩ := by
  rw [txt_25, hit_nat x 25 4080 8194 hx (by decide +kernel) (by decide +kernel) (by decide +kernel) (by decide), show 18446744073709551615 - 4080 = 18446744073709547535 from rfl, landx_25 x hx]
  unfold dec0
  repeat (first | rw [dr48] | rw [dr49] | rw [dr110] | rw [dr109] | rw [dr105])
  rw [drNil, DecSt.mk.injEq]
  refine ⟨?_, ?_, ?_, ?_, ?_⟩
  · rw [Bool.eq_iff_iff, Nat.beq_eq]
    simp only [Bool.and_eq_true, beq_iff_eq, true_and, Nat.reduceAdd, Nat.reduceSub, Int.reducePow]
    constructor
    · rintro ⟨⟨⟨⟨⟨⟨⟨h15, h14⟩, h13⟩, h12⟩, h3⟩, h2⟩, h1⟩, h0⟩
      have n3 := (nib3 x 0 0 1 0 (by simp) (by simp) (by simp) (by simp)).1 ⟨h15, h14, h13, h12⟩
      have n0 := (nib0 x 0 0 1 0 (by simp) (by simp) (by simp) (by simp)).1 ⟨h3, h2, h1, h0⟩
      clear h15 h14 h13 h12 h3 h2 h1 h0
      omega
    · intro h
      obtain ⟨h15, h14, h13, h12⟩ := (nib3 x 0 0 1 0 (by simp) (by simp) (by simp) (by simp)).2 (by omega)
      obtain ⟨h3, h2, h1, h0⟩ := (nib0 x 0 0 1 0 (by simp) (by simp) (by simp) (by simp)).2 (by omega)
      exact ⟨⟨⟨⟨⟨⟨⟨h15, h14⟩, h13⟩, h12⟩, h3⟩, h2⟩, h1⟩, h0⟩
  all_goals (simp; try omega)

theorem txt_26 : txtBits ((26 : Nat) : Int) = [48, 49, 49, 48, 110, 110, 110, 110, 109, 109, 109, 109, 48, 48, 49, 48] := by decide +kernel
theorem landx_26 (x : Nat) (hx : x < 65536) : Nat.land x 18446744073709547535 = x % 16 + 0 + 0 + 4096 * (x / 4096 % 16) := by
  rw [land16 x, land16 (x / 16), land16 (x / 16 / 16), land16 (x / 16 / 16 / 16), show x / 16 / 16 / 16 / 16 = 0 by omega, zero_land]
  simp only [Nat.reduceMod, Nat.reduceDiv, land_15, land_0]
  omega
theorem dr_26 (x : Nat) (hx : x < 65536) : decRun (x : Int) (txtBits ((26 : Nat) : Int)) 0 dec0 = ⟨decHit (x : Int) ((26 : Nat) : Int), (x / 256 % 16 : Nat), (x / 16 % 16 : Nat), 0, 0⟩ := by
  rw [txt_26, hit_nat x 26 4080 24578 hx (by decide +kernel) (by decide +kernel) (by decide +kernel) (by decide), show 18446744073709551615 - 4080 = 18446744073709547535 from rfl, landx_26 x hx]
  unfold dec0
  repeat (first | rw [dr48] | rw [dr49] | rw [dr110] | rw [dr109] | rw [dr105])
  rw [drNil, DecSt.mk.injEq]
  refine ⟨?_, ?_, ?_, ?_, ?_⟩
  · rw [Bool.eq_iff_iff, Nat.beq_eq]
    simp only [Bool.and_eq_true, beq_iff_eq, true_and, Nat.reduceAdd, Nat.reduceSub, Int.reducePow]
    constructor
    · rintro ⟨⟨⟨⟨⟨⟨⟨h15, h14⟩, h13⟩, h12⟩, h3⟩, h2⟩, h1⟩, h0⟩
      have n3 := (nib3 x 0 1 1 0 (by simp) (by simp) (by simp) (by simp)).1 ⟨h15, h14, h13, h12⟩
      have n0 := (nib0 x 0 0 1 0 (by simp) (by simp) (by simp) (by simp)).1 ⟨h3, h2, h1, h0⟩
      clear h15 h14 h13 h12 h3 h2 h1 h0
      omega
    · intro h
      obtain ⟨h15, h14, h13, h12⟩ := (nib3 x 0 1 1 0 (by simp) (by simp) (by simp) (by simp)).2 (by omega)
      obtain ⟨h3, h2, h1, h0⟩ := (nib0 x 0 0 1 0 (by simp) (by simp) (by simp) (by simp)).2 (by omega)
      exact ⟨⟨⟨⟨⟨⟨⟨h15, h14⟩, h13⟩, h12⟩, h3⟩, h2⟩, h1⟩, h0⟩
  all_goals (simp; try omega)

theorem txt_27 : txtBits ((27 : Nat) : Int) = [49, 49, 48, 48, 48, 48, 49, 49, 105, 105, 105, 105, 105, 105, 105, 105] := by decide +kernel
theorem landx_27 (x : Nat) (hx : x < 65536) : Nat.land x 18446744073709551360 = 0 + 0 + 256 * (x / 256 % 16) + 4096 * (x / 4096 % 16) := by
  rw [land16 x, land16 (x / 16), land16 (x / 16 / 16), land16 (x / 16 / 16 / 16), show x / 16 / 16 / 16 / 16 = 0 by omega, zero_land]
  simp only [Nat.reduceMod, Nat.reduceDiv, land_15, land_0]
  omega
theorem dr_27 (x : Nat) (hx : x < 65536) : decRun (x : Int) (txtBits ((27 : Nat) : Int)) 0 dec0 = ⟨decHit (x : Int) ((27 : Nat) : Int), 0, 0, (x % 256 : Nat), 8⟩ := by
  rw [txt_27, hit_nat x 27 255 49920 hx (by decide +kernel) (by decide +kernel) (by decide +kernel) (by decide), show 18446744073709551615 - 255 = 18446744073709551360 from rfl, landx_27 x hx]
  unfold dec0
  repeat (first | rw [dr48] | rw [dr49] | rw [dr110] | rw [dr109] | rw [dr105])
  rw [drNil, DecSt.mk.injEq]
  refine ⟨?_, ?_, ?_, ?_, ?_⟩
  · rw [Bool.eq_iff_iff, Nat.beq_eq]
    simp only [Bool.and_eq_true, beq_iff_eq, true_and, Nat.reduceAdd, Nat.reduceSub, Int.reducePow]
    constructor
    · rintro ⟨⟨⟨⟨⟨⟨⟨h15, h14⟩, h13⟩, h12⟩, h11⟩, h10⟩, h9⟩, h8⟩
      have n3 := (nib3 x 1 1 0 0 (by simp) (by simp) (by simp) (by simp)).1 ⟨h15, h14, h13, h12⟩
      have n2 := (nib2 x 0 0 1 1 (by simp) (by simp) (by simp) (by simp)).1 ⟨h11, h10, h9, h8⟩
      clear h15 h14 h13 h12 h11 h10 h9 h8
      omega
    · intro h
      obtain ⟨h15, h14, h13, h12⟩ := (nib3 x 1 1 0 0 (by simp) (by simp) (by simp) (by simp)).2 (by omega)
      obtain ⟨h11, h10, h9, h8⟩ := (nib2 x 0 0 1 1 (by simp) (by simp) (by simp) (by simp)).2 (by omega)
      exact ⟨⟨⟨⟨⟨⟨⟨h15, h14⟩, h13⟩, h12⟩, h11⟩, h10⟩, h9⟩, h8⟩
  all_goals (simp; try omega)

theorem landW (y d : Nat) (hd : d = 0 ∨ d = 4) : ((Nat.land y (2 ^ d - 1) : Nat) : Int) = if d = 0 then 0 else ((y % 16 : Nat) : Int) := by
  have : Nat.land y (2 ^ d - 1) = y % 2 ^ d := Nat.and_two_pow_sub_one_eq_mod _ _
  rw [this]
  rcases hd with rfl | rfl
  · simp
  · simp

theorem dr_all (k : Nat) (h1 : 1 ≤ k) (h2 : k < 28) (x : Nat) (hx : x < 65536) : decRun (x : Int) (txtBits (k : Int)) 0 dec0 =
    ⟨decHit (x : Int) (k : Int), ((Nat.land (x / 256) (2 ^ wideN k - 1) : Nat) : Int), ((Nat.land (x / 16) (2 ^ wideM k - 1) : Nat) : Int), ((x % 2 ^ wideI k : Nat) : Int), ((wideI k : Nat) : Int)⟩ := by
  obtain ⟨_, _, _, w1, w2, _, _, _, _, _⟩ := row_facts k h2
  rw [landW _ _ w1, landW _ _ w2]
  clear w1 w2
  have h : k = 1 ∨ k = 2 ∨ k = 3 ∨ k = 4 ∨ k = 5 ∨ k = 6 ∨ k = 7 ∨ k = 8 ∨ k = 9 ∨ k = 10 ∨ k = 11 ∨ k = 12 ∨ k = 13 ∨ k = 14 ∨ k = 15 ∨ k = 16 ∨ k = 17 ∨ k = 18 ∨ k = 19 ∨ k = 20 ∨ k = 21 ∨ k = 22 ∨ k = 23 ∨ k = 24 ∨ k = 25 ∨ k = 26 ∨ k = 27 := by omega
  rcases h with rfl | rfl | rfl | rfl | rfl | rfl | rfl | rfl | rfl | rfl | rfl | rfl | rfl | rfl | rfl | rfl | rfl | rfl | rfl | rfl | rfl | rfl | rfl | rfl | rfl | rfl | rfl
  · rw [dr_1 x hx]; simp [wideN, wideM, wideI]
  · rw [dr_2 x hx]; simp [wideN, wideM, wideI]
  · rw [dr_3 x hx]; simp [wideN, wideM, wideI]
  · rw [dr_4 x hx]; simp [wideN, wideM, wideI]
  · rw [dr_5 x hx]; simp [wideN, wideM, wideI]
  · rw [dr_6 x hx]; simp [wideN, wideM, wideI]
  · rw [dr_7 x hx]; simp [wideN, wideM, wideI]
  · rw [dr_8 x hx]; simp [wideN, wideM, wideI]
  · rw [dr_9 x hx]; simp [wideN, wideM, wideI]
  · rw [dr_10 x hx]; simp [wideN, wideM, wideI]
  · rw [dr_11 x hx]; simp [wideN, wideM, wideI]
  · rw [dr_12 x hx]; simp [wideN, wideM, wideI]
  · rw [dr_13 x hx]; simp [wideN, wideM, wideI]
  · rw [dr_14 x hx]; simp [wideN, wideM, wideI]
  · rw [dr_15 x hx]; simp [wideN, wideM, wideI]
  · rw [dr_16 x hx]; simp [wideN, wideM, wideI]
  · rw [dr_17 x hx]; simp [wideN, wideM, wideI]
  · rw [dr_18 x hx]; simp [wideN, wideM, wideI]
  · rw [dr_19 x hx]; simp [wideN, wideM, wideI]
  · rw [dr_20 x hx]; simp [wideN, wideM, wideI]
  · rw [dr_21 x hx]; simp [wideN, wideM, wideI]
  · rw [dr_22 x hx]; simp [wideN, wideM, wideI]
  · rw [dr_23 x hx]; simp [wideN, wideM, wideI]
  · rw [dr_24 x hx]; simp [wideN, wideM, wideI]
  · rw [dr_25 x hx]; simp [wideN, wideM, wideI]
  · rw [dr_26 x hx]; simp [wideN, wideM, wideI]
  · rw [dr_27 x hx]; simp [wideN, wideM, wideI]

end Go.Proofs.YtabepbaldadmgaaDoor.Isa

namespace Go.Proofs.YtabepbaldadmgaaDoor.Isa
open Go.RowKit

theorem rDec_out (x : Int) (w : World) (hx : x < 0 ∨ 65535 < x) :
    Calls Tryd.prog 18 #[.int .i64 x] w fun e w' => e = .returned (.tuple #[.agg #[.int .i64 0, .int .i64 0, .int .i64 0, .int .i64 0], .int .i64 3]) ∧ Below w.heap.size w w' := by
  by_cases h : x < 0
  · go_enter Tryd.func18, Tryd.ntmps18
    go_wp2
    exact bodyPost_ret (v := .tuple #[.agg #[.int .i64 0, .int .i64 0, .int .i64 0, .int .i64 0], .int .i64 3]) (by simp [results, Tryd.results18, go_sem]) rfl ⟨rfl, (Below.refl _ _).alloc (Nat.le_refl _) _⟩
  · have h' : 65535 < x := by omega
    go_enter Tryd.func18, Tryd.ntmps18
    go_wp2
    exact bodyPost_ret (v := .tuple #[.agg #[.int .i64 0, .int .i64 0, .int .i64 0, .int .i64 0], .int .i64 3]) (by simp [results, Tryd.results18, go_sem]) rfl ⟨rfl, (Below.refl _ _).alloc (Nat.le_refl _) _⟩

/-- The instruction that is being read lies in box B, above W. -/
structure InnerAt (B : Nat) (W : World) (k n m i : Int) (x : World) : Prop where
  bel : Below B W x
  lt : B < x.heap.size
  c0 : x.cell? ⟨B, 0, none⟩ = some (.int .i64 k)
  c1 : x.cell? ⟨B, 1, none⟩ = some (.int .i64 n)
  c2 : x.cell? ⟨B, 2, none⟩ = some (.int .i64 m)
  c3 : x.cell? ⟨B, 3, none⟩ = some (.int .i64 i)
  fz : ∀ j, x.frozen? ⟨B, j, none⟩ = false

theorem InnerAt.start0 (W : World) (k : Int) : InnerAt W.heap.size W k 0 0 0 (W.alloc (.cells #[.int .i64 k, .int .i64 0, .int .i64 0, .int .i64 0] 45)) where
  bel := (Below.refl _ _).alloc (Nat.le_refl _) _
  lt := by simp
  c0 := by simp
  c1 := by simp
  c2 := by simp
  c3 := by simp
  fz j := by unfold World.frozen?; rw [heap_alloc_new]; simp

theorem InnerAt.start (W : World) (B : Nat) (hB : B = W.heap.size) (k : Int) : InnerAt B W k 0 0 0 (W.alloc (.cells #[.int .i64 k, .int .i64 0, .int .i64 0, .int .i64 0] 45)) := by
  subst hB
  exact InnerAt.start0 W k

theorem addr_ne {B i j : Nat} (h : i ≠ j) : (⟨B, i, none⟩ : Addr) ≠ ⟨B, j, none⟩ := by
  intro e; cases e; exact h rfl

theorem InnerAt.set1 {B : Nat} {W x : World} {k n m i : Int} (h : InnerAt B W k n m i x) (v : Int) : InnerAt B W k v m i (x.setCell ⟨B, 1, none⟩ (.int .i64 v)) where
  bel := h.bel.setCell (Nat.le_refl _) _
  lt := by simpa using h.lt
  c0 := by rw [World.cell?_setCell_other _ _ _ _ (addr_ne (by decide))]; exact h.c0
  c1 := World.cell?_setCell_same _ _ _ h.c1
  c2 := by rw [World.cell?_setCell_other _ _ _ _ (addr_ne (by decide))]; exact h.c2
  c3 := by rw [World.cell?_setCell_other _ _ _ _ (addr_ne (by decide))]; exact h.c3
  fz j := by rw [World.frozen?_setCell]; exact h.fz j
theorem InnerAt.set2 {B : Nat} {W x : World} {k n m i : Int} (h : InnerAt B W k n m i x) (v : Int) : InnerAt B W k n v i (x.setCell ⟨B, 2, none⟩ (.int .i64 v)) where
  bel := h.bel.setCell (Nat.le_refl _) _
  lt := by simpa using h.lt
  c0 := by rw [World.cell?_setCell_other _ _ _ _ (addr_ne (by decide))]; exact h.c0
  c1 := by rw [World.cell?_setCell_other _ _ _ _ (addr_ne (by decide))]; exact h.c1
  c2 := World.cell?_setCell_same _ _ _ h.c2
  c3 := by rw [World.cell?_setCell_other _ _ _ _ (addr_ne (by decide))]; exact h.c3
  fz j := by rw [World.frozen?_setCell]; exact h.fz j
theorem InnerAt.set3 {B : Nat} {W x : World} {k n m i : Int} (h : InnerAt B W k n m i x) (v : Int) : InnerAt B W k n m v (x.setCell ⟨B, 3, none⟩ (.int .i64 v)) where
  bel := h.bel.setCell (Nat.le_refl _) _
  lt := by simpa using h.lt
  c0 := by rw [World.cell?_setCell_other _ _ _ _ (addr_ne (by decide))]; exact h.c0
  c1 := by rw [World.cell?_setCell_other _ _ _ _ (addr_ne (by decide))]; exact h.c1
  c2 := by rw [World.cell?_setCell_other _ _ _ _ (addr_ne (by decide))]; exact h.c2
  c3 := World.cell?_setCell_same _ _ _ h.c3
  fz j := by rw [World.frozen?_setCell]; exact h.fz j

/-- What the inner loop's state may be. -/
def StOk (j : Nat) (s : DecSt) : Prop := 0 ≤ s.n ∧ s.n < 2 ^ j ∧ 0 ≤ s.m ∧ s.m < 2 ^ j ∧ 0 ≤ s.i ∧ s.i < 2 ^ j ∧ 0 ≤ s.d ∧ s.d ≤ j

theorem txt_drop (s : ByteArray) (j : Nat) (hj : j < s.size) : s.data.toList.drop j = s[j] :: s.data.toList.drop (j + 1) := by
  rw [List.drop_eq_getElem_cons (by simpa using hj)]
  rfl

/-- What the number's range says of its width. -/
theorem low_facts (k : Nat) (h : k < 28) : (layLow (opShape k) < 0 ∧ (wideI k = 8 ∧ layHigh (opShape k) = 127 ∨ wideI k = 12 ∧ layHigh (opShape k) = 2047)) ∨ (¬ layLow (opShape k) < 0 ∧ layHigh (opShape k) = ((2 ^ wideI k : Nat) : Int) - 1) := by
  have : ∀ j : Fin 28, (layLow (opShape j.val) < 0 ∧ (wideI j.val = 8 ∧ layHigh (opShape j.val) = 127 ∨ wideI j.val = 12 ∧ layHigh (opShape j.val) = 2047)) ∨ (¬ layLow (opShape j.val) < 0 ∧ layHigh (opShape j.val) = ((2 ^ wideI j.val : Nat) : Int) - 1) := by decide +kernel
  exact this ⟨k, h⟩

set_option maxRecDepth 100000 in
set_option maxHeartbeats 4000000 in
theorem rDec_in (x : Nat) (w : World) (hx : x < 65536) :
    Calls Tryd.prog 18 #[.int .i64 (x : Int)] w fun e w' => e = .returned (.tuple #[decV x, .int .i64 (decE x)]) ∧ Below w.heap.size w w' := by
  have hx1 : (x : Int) ≤ 65535 := by omega
  have hd1 : decide ((x : Int) < 0) = false := by simp
  have hd2 : decide (65535 < (x : Int)) = false := by simp; omega
  have HW : Hid (withinB (x : Int) 0 65535 = true) := within_nat hx
  go_enter Tryd.func18, Tryd.ntmps18
  go_wp2_with fail
  go_loopw [4] (fun s4 wr => ∃ k : Nat, 1 ≤ k ∧ k ≤ 28 ∧ s4 = .int .i64 k ∧ Below (w.heap.size + 1) (w.alloc (.cells #[.int .i64 0, .int .i64 0, .int .i64 0, .int .i64 0] 45)) wr ∧ Hid (decFrom x 28 0 = decFrom x (28 - k) k)) (fun s4 _ => 28 - (intOf s4).toNat)
  case atStart => exact ⟨1, Nat.le_refl _, by omega, rfl, Below.refl _ _, dec_no (k := 0) (by omega) rfl (by rw [decHit, show knownB ((0 : Nat) : Int) = false by decide +kernel]; rfl)⟩
  case round =>
    obtain ⟨k, hk1, hk2, rfl, hB, HF⟩ := hrel
    by_cases hlt : k < 28
    · have hk' : (k : Int) ≤ 27 := by omega
      go_wp2_with fail
      refine (rows_let _).mono ?_
      rintro e w1 ⟨g, rfl, hg1, hb1, hg2, hg3⟩
      have hl := run_look_plain w1 g (k : Int) hg1
      have hB1 := hB.trans (hb1.mono (by have := hB.size; simpa using this))
      have hkn : knownB (k : Int) = true := by simp [knownB, withinB]; omega
      have hsz : (refBits (k : Int)).size = 16 := refBits_16 k (by omega) (by omega)
      have ht : refTxt (k : Int) = refBits (k : Int) := by simp [refTxt, hkn]
      have hsh : infoShape (k : Int) = opShape (k : Int) := by simp [infoShape, hkn]
      rw [ht, hsh] at hl
      have HT : Hid (refTxt (k : Int) = refBits (k : Int)) := ht
      have HB1 : Hid (Below (w.heap.size + 1) (w.alloc (.cells #[.int .i64 0, .int .i64 0, .int .i64 0, .int .i64 0] 45)) w1) := hB1
      clear hb1 hB hB1 hg1 hg2 hg3 hkn ht hsh
      go_wp2_with fail
      clear hl
      go_loopw [7, 8, 29] (fun s7 s8 s29 wi => ∃ (j : Nat) (st : DecSt), j ≤ 16 ∧ s29 = .int .i64 j ∧ s7 = .bool st.f ∧ s8 = .int .i64 st.d ∧ StOk j st ∧ InnerAt (w1.heap.size + 1) (w1.alloc (.cells #[.string (infoName k), .int .i64 (opShape k), .string (refBits k)] 65)) k st.n st.m st.i wi ∧ Hid (decRun x ((txtBits k).drop j) j st = decRun x (txtBits k) 0 dec0)) (fun _ _ i _ => 16 - (intOf i).toNat)
      case atStart => exact ⟨0, dec0, Nat.zero_le _, rfl, rfl, rfl, by simp [StOk, dec0], InnerAt.start _ _ (by simp) _, rfl⟩
      case round =>
        obtain ⟨j, ⟨f, n, m, i, d⟩, hj, rfl, rfl, rfl, hst, hin, HD⟩ := hrel
        simp only [StOk] at hst
        obtain ⟨n0, n1, m0, m1, i0, i1, d0, d1⟩ := hst
        by_cases hjl : j < 16
        · have hj' : (j : Int) < 16 := by omega
          have hs5 : wr.cell? ⟨w1.heap.size, 2, none⟩ = some (.string (refBits k)) := by rw [hin.bel.cell (by simp)]; simp
          have hidx := index9 (refBits k) j (j : Int) rfl (by omega)
          have hdr : (txtBits k).drop j = (refBits k)[j] :: (txtBits k).drop (j + 1) := txt_drop _ j (by omega)
          rw [hdr] at HD
          have hsh : (15 - (j : Int)).toNat = 15 - j := by omega
          have hand := and_one ((x : Int) / 2 ^ (15 - j))
          have hb : 0 ≤ (x : Int) / 2 ^ (15 - j) % 2 ∧ (x : Int) / 2 ^ (15 - j) % 2 ≤ 1 := by omega
          obtain ⟨hb0, hb1⟩ := hb
          have hp : (2 : Int) ^ j ≤ 32768 := by
            have := Nat.pow_le_pow_right (n := 2) (by omega) (show j ≤ 15 by omega)
            have h2 : ((2 ^ j : Nat) : Int) ≤ ((2 ^ 15 : Nat) : Int) := by omega
            simpa using h2
          have HQ : Hid ((2 : Int) ^ (j + 1) = 2 * 2 ^ j) := by show _ = _; rw [Int.pow_succ]; omega
          have cc1 := hin.c1
          have cc2 := hin.c2
          have cc3 := hin.c3
          have ff1 := hin.fz 1
          have ff2 := hin.fz 2
          have ff3 := hin.fz 3
          clear hdr
          generalize (refBits k)[j] = c at *
          by_cases c48 : c = 48
          · subst c48
            rw [dr48] at HD
            cases f
            · go_wp2
              exact ⟨⟨j + 1, ⟨false, n, m, i, d⟩, by omega, by go_num, rfl, by go_num, by simp only [StOk]; rw [HQ.out]; omega, hin, HD⟩, by simp [intOf]; omega⟩
            · go_wp2
              exact ⟨⟨j + 1, ⟨(x : Int) / 2 ^ (15 - j) % 2 == 0, n, m, i, d⟩, by omega, by go_num, rfl, by go_num, by simp only [StOk]; rw [HQ.out]; omega, hin, HD⟩, by simp [intOf]; omega⟩
          by_cases c49 : c = 49
          · subst c49
            rw [dr49] at HD
            cases f
            · go_wp2
              exact ⟨⟨j + 1, ⟨false, n, m, i, d⟩, by omega, by go_num, rfl, by go_num, by simp only [StOk]; rw [HQ.out]; omega, hin, HD⟩, by simp [intOf]; omega⟩
            · go_wp2
              exact ⟨⟨j + 1, ⟨(x : Int) / 2 ^ (15 - j) % 2 == 1, n, m, i, d⟩, by omega, by go_num, rfl, by go_num, by simp only [StOk]; rw [HQ.out]; omega, hin, HD⟩, by simp [intOf]; omega⟩
          by_cases c110 : c = 110
          · subst c110
            rw [dr110] at HD
            go_wp2
            exact ⟨⟨j + 1, ⟨f, 2 * n + (x : Int) / 2 ^ (15 - j) % 2, m, i, d⟩, by omega, by go_num, rfl, by go_num, by simp only [StOk]; rw [HQ.out]; omega, hin.set1 _, HD⟩, by simp [intOf]; omega⟩
          by_cases c109 : c = 109
          · subst c109
            rw [dr109] at HD
            go_wp2
            exact ⟨⟨j + 1, ⟨f, n, 2 * m + (x : Int) / 2 ^ (15 - j) % 2, i, d⟩, by omega, by go_num, rfl, by go_num, by simp only [StOk]; rw [HQ.out]; omega, hin.set2 _, HD⟩, by simp [intOf]; omega⟩
          have t1 : ((c.toNat : Int) == 48) = false := beq_eq_false_iff_ne.2 (fun e => c48 (UInt8.toNat_inj.1 (by simpa using Int.ofNat.inj e)))
          have t2 : ((c.toNat : Int) == 49) = false := beq_eq_false_iff_ne.2 (fun e => c49 (UInt8.toNat_inj.1 (by simpa using Int.ofNat.inj e)))
          have t3 : ((c.toNat : Int) == 110) = false := beq_eq_false_iff_ne.2 (fun e => c110 (UInt8.toNat_inj.1 (by simpa using Int.ofNat.inj e)))
          have t4 : ((c.toNat : Int) == 109) = false := beq_eq_false_iff_ne.2 (fun e => c109 (UInt8.toNat_inj.1 (by simpa using Int.ofNat.inj e)))
          have HD2 : Hid (decRun x ((txtBits k).drop (j + 1)) (j + 1) ⟨f, n, m, 2 * i + (x : Int) / 2 ^ (15 - j) % 2, d + 1⟩ = decRun x (txtBits k) 0 dec0) := by
            have := HD.out
            rwa [decRun, if_neg c48, if_neg c49, if_neg c110, if_neg c109] at this
          clear HD c48 c49 c110 c109
          go_wp2
          exact ⟨⟨j + 1, ⟨f, n, m, 2 * i + (x : Int) / 2 ^ (15 - j) % 2, d + 1⟩, by omega, by go_num, rfl, by go_num, by simp only [StOk]; rw [HQ.out]; omega, hin.set3 _, HD2⟩, by simp [intOf]; omega⟩
        · have hj16 : j = 16 := by omega
          subst hj16
          have hst : (⟨f, n, m, i, d⟩ : DecSt) = ⟨decHit (x : Int) (k : Int), ((Nat.land (x / 256) (2 ^ wideN k - 1) : Nat) : Int), ((Nat.land (x / 16) (2 ^ wideM k - 1) : Nat) : Int), ((x % 2 ^ wideI k : Nat) : Int), ((wideI k : Nat) : Int)⟩ := by
            rw [← dr_all k hk1 hlt x hx, ← HD.out, List.drop_of_length_le (by show (refBits k).size ≤ 16; omega)]
            rfl
          rw [DecSt.mk.injEq] at hst
          obtain ⟨e1, e2, e3, e4, e5⟩ := hst
          have hbig : w.heap.size + 1 ≤ w1.heap.size := by have := HB1.out.size; simpa using this
          have HB2 : Hid (Below (w.heap.size + 1) (w.alloc (.cells #[.int .i64 0, .int .i64 0, .int .i64 0, .int .i64 0] 45)) wr) := (HB1.out.alloc hbig _).trans (hin.bel.mono (by omega))
          clear n0 n1 m0 m1 i1 d1 HD
          cases hh : decHit (x : Int) (k : Int)
          · rw [hh] at e1
            subst e1
            have HN : Hid (decHit (x : Int) (k : Int) = false) := hh
            clear hh e2 e3 e4 e5
            go_wp2
            exact ⟨⟨k + 1, by omega, by omega, by go_num, HB2.out, dec_no hlt HF.out HN.out⟩, by simp [intOf]; omega⟩
          · rw [hh] at e1
            subst e1
            have HV : Hid (decV x = .agg #[.int .i64 k, .int .i64 n, .int .i64 m, .int .i64 (if layHigh (opShape k) < i then i - ((2 ^ wideI k : Nat) : Int) else i)] ∧ decE x = 0) := by
              obtain ⟨v1, v2⟩ := decV_hit hlt HW.out HF.out hh
              refine ⟨?_, v2⟩
              rw [v1, rdV_nat k x hlt hx, e2, e3, e4]
            have hi2 : i < ((2 ^ wideI k : Nat) : Int) := by rw [e4]; have := Nat.mod_lt x (Nat.two_pow_pos (wideI k)); omega
            have hs51 : wr.cell? ⟨w1.heap.size, 1, none⟩ = some (.int .i64 (opShape k)) := by rw [hin.bel.cell (by simp)]; simp
            have cc0 := hin.c0
            have cc1 := hin.c1
            have cc2 := hin.c2
            have cc3 := hin.c3
            have ff3 := hin.fz 3
            obtain ⟨hc, hf⟩ := bcellB HB2.out
            have hgz := hin.lt
            have HI := hin
            clear hh e2 e3 e4 hin
            have lf := low_facts k hlt
            rcases lf with ⟨hlow, lf⟩ | ⟨hlow, lf⟩
            · rcases lf with ⟨hw, hhi⟩ | ⟨hw, hhi⟩
              · have hd' : d = 8 := by rw [hw] at e5; omega
                subst hd'
                have hfull : ((2 ^ wideI k : Nat) : Int) = 256 := by rw [hw]; rfl
                by_cases hge : 128 ≤ i
                · have HX : Hid ((if layHigh (opShape k) < i then i - ((2 ^ wideI k : Nat) : Int) else i) = i - 256) := by show _ = _; rw [if_pos (by omega), hfull]
                  have hi3 : i < 256 := by omega
                  clear hi2 e5 hw hhi hfull
                  go_wp2_with (go_at_call 31; refine (rRange_any _ _).mono ?_; rintro e w' ⟨rfl, rfl⟩)
                  go_quiet (fail)
                  go_wp2
                  go_region
                  go_wp2
                  refine bodyPost_ret (v := .tuple #[.agg #[.int .i64 k, .int .i64 n, .int .i64 m, .int .i64 (i - 256)], .int .i64 0]) (by simp [results, Tryd.results18, go_sem, hc]) rfl ⟨by rw [HV.out.1, HV.out.2, HX.out], ?_⟩
                  have HZ := ((Below.refl w.heap.size w).alloc (Nat.le_refl _) (.cells #[.int .i64 0, .int .i64 0, .int .i64 0, .int .i64 0] 45)).trans (HB2.out.mono (by omega))
                  exact (((((below_draws HZ _).setCell (by show w.heap.size ≤ w1.heap.size + 1; omega) _).setCell (Nat.le_refl _) _).setCell (Nat.le_refl _) _).setCell (Nat.le_refl _) _).setCell (Nat.le_refl _) _
                · have hge' : decide (128 ≤ i) = false := by simpa using hge
                  have HX : Hid ((if layHigh (opShape k) < i then i - ((2 ^ wideI k : Nat) : Int) else i) = i) := by show _ = _; rw [if_neg (by omega)]
                  clear hi2 e5 hw hhi hfull
                  go_wp2_with (go_at_call 31; refine (rRange_any _ _).mono ?_; rintro e w' ⟨rfl, rfl⟩)
                  go_quiet (fail)
                  go_wp2
                  refine bodyPost_ret (v := .tuple #[.agg #[.int .i64 k, .int .i64 n, .int .i64 m, .int .i64 i], .int .i64 0]) (by simp [results, Tryd.results18, go_sem, hc]) rfl ⟨by rw [HV.out.1, HV.out.2, HX.out], ?_⟩
                  exact ((((below_draws (((Below.refl w.heap.size w).alloc (Nat.le_refl _) _).trans (HB2.out.mono (by omega))) _).setCell (by simp) _).setCell (by simp) _).setCell (by simp) _).setCell (by simp) _
              · have hd' : d = 12 := by rw [hw] at e5; omega
                subst hd'
                have hfull : ((2 ^ wideI k : Nat) : Int) = 4096 := by rw [hw]; rfl
                by_cases hge : 2048 ≤ i
                · have HX : Hid ((if layHigh (opShape k) < i then i - ((2 ^ wideI k : Nat) : Int) else i) = i - 4096) := by show _ = _; rw [if_pos (by omega), hfull]
                  have hi3 : i < 4096 := by omega
                  clear hi2 e5 hw hhi hfull
                  go_wp2_with (go_at_call 31; refine (rRange_any _ _).mono ?_; rintro e w' ⟨rfl, rfl⟩)
                  go_quiet (fail)
                  go_wp2
                  go_region
                  go_wp2
                  refine bodyPost_ret (v := .tuple #[.agg #[.int .i64 k, .int .i64 n, .int .i64 m, .int .i64 (i - 4096)], .int .i64 0]) (by simp [results, Tryd.results18, go_sem, hc]) rfl ⟨by rw [HV.out.1, HV.out.2, HX.out], ?_⟩
                  have HZ := ((Below.refl w.heap.size w).alloc (Nat.le_refl _) (.cells #[.int .i64 0, .int .i64 0, .int .i64 0, .int .i64 0] 45)).trans (HB2.out.mono (by omega))
                  exact (((((below_draws HZ _).setCell (by show w.heap.size ≤ w1.heap.size + 1; omega) _).setCell (Nat.le_refl _) _).setCell (Nat.le_refl _) _).setCell (Nat.le_refl _) _).setCell (Nat.le_refl _) _
                · have hge' : decide (2048 ≤ i) = false := by simpa using hge
                  have HX : Hid ((if layHigh (opShape k) < i then i - ((2 ^ wideI k : Nat) : Int) else i) = i) := by show _ = _; rw [if_neg (by omega)]
                  clear hi2 e5 hw hhi hfull
                  go_wp2_with (go_at_call 31; refine (rRange_any _ _).mono ?_; rintro e w' ⟨rfl, rfl⟩)
                  go_quiet (fail)
                  go_wp2
                  refine bodyPost_ret (v := .tuple #[.agg #[.int .i64 k, .int .i64 n, .int .i64 m, .int .i64 i], .int .i64 0]) (by simp [results, Tryd.results18, go_sem, hc]) rfl ⟨by rw [HV.out.1, HV.out.2, HX.out], ?_⟩
                  exact ((((below_draws (((Below.refl w.heap.size w).alloc (Nat.le_refl _) _).trans (HB2.out.mono (by omega))) _).setCell (by simp) _).setCell (by simp) _).setCell (by simp) _).setCell (by simp) _
            · have hld : decide (layLow (opShape k) < 0) = false := by simpa using hlow
              have HX : Hid ((if layHigh (opShape k) < i then i - ((2 ^ wideI k : Nat) : Int) else i) = i) := by show _ = _; rw [if_neg (by omega)]
              clear lf hlow hi2 e5
              go_wp2_with (go_at_call 31; refine (rRange_any _ _).mono ?_; rintro e w' ⟨rfl, rfl⟩)
              go_quiet (fail)
              go_wp2
              refine bodyPost_ret (v := .tuple #[.agg #[.int .i64 k, .int .i64 n, .int .i64 m, .int .i64 i], .int .i64 0]) (by simp [results, Tryd.results18, go_sem, hc]) rfl ⟨by rw [HV.out.1, HV.out.2, HX.out], ?_⟩
              exact ((((below_draws (((Below.refl w.heap.size w).alloc (Nat.le_refl _) _).trans (HB2.out.mono (by omega))) _).setCell (by simp) _).setCell (by simp) _).setCell (by simp) _).setCell (by simp) _
    · have hk28 : k = 28 := by omega
      subst hk28
      have HV : Hid (decV x = .agg #[.int .i64 0, .int .i64 0, .int .i64 0, .int .i64 0] ∧ decE x = 12) := decV_none HW.out HF.out
      obtain ⟨hc, hf⟩ := bcellB hB
      have HB : Hid (Below w.heap.size w wr) := ((Below.refl w.heap.size w).alloc (Nat.le_refl _) _).trans (hB.mono (by omega))
      clear hB
      go_wp2
      refine bodyPost_ret (v := .tuple #[.agg #[.int .i64 0, .int .i64 0, .int .i64 0, .int .i64 0], .int .i64 12]) (by simp [results, Tryd.results18, go_sem, hc]) rfl ⟨by rw [HV.out.1, HV.out.2], ?_⟩
      exact (((HB.out.setCell (Nat.le_refl _) _).setCell (Nat.le_refl _) _).setCell (Nat.le_refl _) _).setCell (Nat.le_refl _) _

theorem rDec_any (x : Int) (w : World) :
    Calls Tryd.prog 18 #[.int .i64 x] w fun e w' => e = .returned (.tuple #[decV x, .int .i64 (decE x)]) ∧ Below w.heap.size w w' := by
  by_cases hx : 0 ≤ x ∧ x ≤ 65535
  · obtain ⟨y, rfl⟩ := Int.eq_ofNat_of_zero_le hx.1
    exact rDec_in y w (by omega)
  · have hw : withinB x 0 65535 = false := by simp [withinB]; omega
    have e1 : decV x = .agg #[.int .i64 0, .int .i64 0, .int .i64 0, .int .i64 0] := by simp [decV, hw]
    have e2 : decE x = 3 := by simp [decE, hw]
    rw [e1, e2]
    exact rDec_out x w (by omega)

end Go.Proofs.YtabepbaldadmgaaDoor.Isa
