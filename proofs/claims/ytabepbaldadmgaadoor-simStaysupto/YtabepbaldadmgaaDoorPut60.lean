/- The document's Decode reads the same instruction: the plain mathematics. The contract of the document's own Decode. SimStays: the mathematics. SimStays: the walk. -/
import Derived.Test.YtabepbaldadmgaaDoorPut8
import Derived.Test.YtabepbaldadmgaaDoorSnZ
namespace Go.Proofs.YtabepbaldadmgaaDoor.Isa
open Go.RowKit

/-- Fits, the registers, the number, and how wide it is. -/
structure DecSt where
  f : Bool
  n : Int
  m : Int
  i : Int
  d : Int

/-- Bit by bit from the uppermost one on. -/
def decRun (x : Int) : List UInt8 → Nat → DecSt → DecSt
  | [], _, s => s
  | c :: cs, k, s =>
    if c = 48 then decRun x cs (k + 1) { s with f := s.f && (x / 2 ^ (15 - k) % 2 == 0) }
    else if c = 49 then decRun x cs (k + 1) { s with f := s.f && (x / 2 ^ (15 - k) % 2 == 1) }
    else if c = 110 then decRun x cs (k + 1) { s with n := 2 * s.n + x / 2 ^ (15 - k) % 2 }
    else if c = 109 then decRun x cs (k + 1) { s with m := 2 * s.m + x / 2 ^ (15 - k) % 2 }
    else decRun x cs (k + 1) { s with i := 2 * s.i + x / 2 ^ (15 - k) % 2, d := s.d + 1 }

def dec0 : DecSt := ⟨true, 0, 0, 0, 0⟩
def txtBits (k : Int) : List UInt8 := (refBits k).data.toList

theorem land16 (x c : Nat) : Nat.land x c = Nat.land (x % 16) (c % 16) + 16 * Nat.land (x / 16) (c / 16) := by
  have h1 : Nat.land x c % 2 ^ 4 = Nat.land (x % 2 ^ 4) (c % 2 ^ 4) := Nat.and_mod_two_pow
  have h2 : Nat.land x c >>> 4 = Nat.land (x >>> 4) (c >>> 4) := Nat.shiftRight_and_distrib
  rw [Nat.shiftRight_eq_div_pow, Nat.shiftRight_eq_div_pow, Nat.shiftRight_eq_div_pow] at h2
  simp only [show (2 : Nat) ^ 4 = 16 from rfl] at h1 h2
  omega

theorem land_15 (y : Nat) : Nat.land (y % 16) 15 = y % 16 := by
  have : Nat.land (y % 16) (2 ^ 4 - 1) = y % 16 % 2 ^ 4 := Nat.and_two_pow_sub_one_eq_mod _ _
  simpa using this
theorem land_0 (y : Nat) : Nat.land y 0 = 0 := Nat.and_zero _
theorem zero_land (y : Nat) : Nat.land 0 y = 0 := Nat.zero_and _

theorem dr48 (x : Int) (cs : List UInt8) (k : Nat) (f : Bool) (n m i d : Int) : decRun x (48 :: cs) k ⟨f, n, m, i, d⟩ = decRun x cs (k + 1) ⟨f && (x / 2 ^ (15 - k) % 2 == 0), n, m, i, d⟩ := rfl
theorem dr49 (x : Int) (cs : List UInt8) (k : Nat) (f : Bool) (n m i d : Int) : decRun x (49 :: cs) k ⟨f, n, m, i, d⟩ = decRun x cs (k + 1) ⟨f && (x / 2 ^ (15 - k) % 2 == 1), n, m, i, d⟩ := rfl
theorem dr110 (x : Int) (cs : List UInt8) (k : Nat) (f : Bool) (n m i d : Int) : decRun x (110 :: cs) k ⟨f, n, m, i, d⟩ = decRun x cs (k + 1) ⟨f, 2 * n + x / 2 ^ (15 - k) % 2, m, i, d⟩ := rfl
theorem dr109 (x : Int) (cs : List UInt8) (k : Nat) (f : Bool) (n m i d : Int) : decRun x (109 :: cs) k ⟨f, n, m, i, d⟩ = decRun x cs (k + 1) ⟨f, n, 2 * m + x / 2 ^ (15 - k) % 2, i, d⟩ := rfl
theorem dr105 (x : Int) (cs : List UInt8) (k : Nat) (f : Bool) (n m i d : Int) : decRun x (105 :: cs) k ⟨f, n, m, i, d⟩ = decRun x cs (k + 1) ⟨f, n, m, 2 * i + x / 2 ^ (15 - k) % 2, d + 1⟩ := rfl
theorem drNil (x : Int) (k : Nat) (s : DecSt) : decRun x [] k s = s := rfl

theorem nib0 (x : Nat) (b3 b2 b1 b0 : Int) (_h3 : b3 = 0 ∨ b3 = 1) (h2 : b2 = 0 ∨ b2 = 1) (h1 : b1 = 0 ∨ b1 = 1) (h0 : b0 = 0 ∨ b0 = 1) : ((x : Int) / 8 % 2 = b3 ∧ (x : Int) / 4 % 2 = b2 ∧ (x : Int) / 2 % 2 = b1 ∧ (x : Int) / 1 % 2 = b0) ↔ ((x % 16 : Nat) : Int) = 8 * b3 + 4 * b2 + 2 * b1 + b0 := by
  omega
theorem nib1 (x : Nat) (b3 b2 b1 b0 : Int) (_h3 : b3 = 0 ∨ b3 = 1) (h2 : b2 = 0 ∨ b2 = 1) (h1 : b1 = 0 ∨ b1 = 1) (h0 : b0 = 0 ∨ b0 = 1) : ((x : Int) / 128 % 2 = b3 ∧ (x : Int) / 64 % 2 = b2 ∧ (x : Int) / 32 % 2 = b1 ∧ (x : Int) / 16 % 2 = b0) ↔ ((x / 16 % 16 : Nat) : Int) = 8 * b3 + 4 * b2 + 2 * b1 + b0 := by
  omega
theorem nib2 (x : Nat) (b3 b2 b1 b0 : Int) (_h3 : b3 = 0 ∨ b3 = 1) (h2 : b2 = 0 ∨ b2 = 1) (h1 : b1 = 0 ∨ b1 = 1) (h0 : b0 = 0 ∨ b0 = 1) : ((x : Int) / 2048 % 2 = b3 ∧ (x : Int) / 1024 % 2 = b2 ∧ (x : Int) / 512 % 2 = b1 ∧ (x : Int) / 256 % 2 = b0) ↔ ((x / 256 % 16 : Nat) : Int) = 8 * b3 + 4 * b2 + 2 * b1 + b0 := by
  omega
theorem nib3 (x : Nat) (b3 b2 b1 b0 : Int) (_h3 : b3 = 0 ∨ b3 = 1) (h2 : b2 = 0 ∨ b2 = 1) (h1 : b1 = 0 ∨ b1 = 1) (h0 : b0 = 0 ∨ b0 = 1) : ((x : Int) / 32768 % 2 = b3 ∧ (x : Int) / 16384 % 2 = b2 ∧ (x : Int) / 8192 % 2 = b1 ∧ (x : Int) / 4096 % 2 = b0) ↔ ((x / 4096 % 16 : Nat) : Int) = 8 * b3 + 4 * b2 + 2 * b1 + b0 := by
  omega
theorem txt_1 : txtBits ((1 : Nat) : Int) = [48, 48, 48, 48, 48, 48, 48, 48, 48, 48, 48, 48, 49, 48, 48, 49] := by decide +kernel
theorem landx_1 (x : Nat) (hx : x < 65536) : Nat.land x 18446744073709551615 = x % 16 + 16 * (x / 16 % 16) + 256 * (x / 256 % 16) + 4096 * (x / 4096 % 16) := by
  rw [land16 x, land16 (x / 16), land16 (x / 16 / 16), land16 (x / 16 / 16 / 16), show x / 16 / 16 / 16 / 16 = 0 by omega, zero_land]
  simp only [Nat.reduceMod, Nat.reduceDiv, land_15]
  omega
theorem dr_1 (x : Nat) (hx : x < 65536) : decRun (x : Int) (txtBits ((1 : Nat) : Int)) 0 dec0 = ⟨decHit (x : Int) ((1 : Nat) : Int), 0, 0, 0, 0⟩ := by
  rw [txt_1, hit_nat x 1 0 9 hx (by decide +kernel) (by decide +kernel) (by decide +kernel) (by decide), show 18446744073709551615 - 0 = 18446744073709551615 from rfl, landx_1 x hx]
  unfold dec0
  repeat (first | rw [dr48] | rw [dr49] | rw [dr110] | rw [dr109] | rw [dr105])
  rw [drNil, DecSt.mk.injEq]
  refine ⟨?_, ?_, ?_, ?_, ?_⟩
  · rw [Bool.eq_iff_iff, Nat.beq_eq]
    simp only [Bool.and_eq_true, beq_iff_eq, true_and, Nat.reduceAdd, Nat.reduceSub, Int.reducePow]
    constructor
    · rintro ⟨⟨⟨⟨⟨⟨⟨⟨⟨⟨⟨⟨⟨⟨⟨h15, h14⟩, h13⟩, h12⟩, h11⟩, h10⟩, h9⟩, h8⟩, h7⟩, h6⟩, h5⟩, h4⟩, h3⟩, h2⟩, h1⟩, h0⟩
      have n3 := (nib3 x 0 0 0 0 (by simp) (by simp) (by simp) (by simp)).1 ⟨h15, h14, h13, h12⟩
      have n2 := (nib2 x 0 0 0 0 (by simp) (by simp) (by simp) (by simp)).1 ⟨h11, h10, h9, h8⟩
      have n1 := (nib1 x 0 0 0 0 (by simp) (by simp) (by simp) (by simp)).1 ⟨h7, h6, h5, h4⟩
      have n0 := (nib0 x 1 0 0 1 (by simp) (by simp) (by simp) (by simp)).1 ⟨h3, h2, h1, h0⟩
      clear h15 h14 h13 h12 h11 h10 h9 h8 h7 h6 h5 h4 h3 h2 h1 h0
      omega
    · intro h
      obtain ⟨h15, h14, h13, h12⟩ := (nib3 x 0 0 0 0 (by simp) (by simp) (by simp) (by simp)).2 (by omega)
      obtain ⟨h11, h10, h9, h8⟩ := (nib2 x 0 0 0 0 (by simp) (by simp) (by simp) (by simp)).2 (by omega)
      obtain ⟨h7, h6, h5, h4⟩ := (nib1 x 0 0 0 0 (by simp) (by simp) (by simp) (by simp)).2 (by omega)
      obtain ⟨h3, h2, h1, h0⟩ := (nib0 x 1 0 0 1 (by simp) (by simp) (by simp) (by simp)).2 (by omega)
      exact ⟨⟨⟨⟨⟨⟨⟨⟨⟨⟨⟨⟨⟨⟨⟨h15, h14⟩, h13⟩, h12⟩, h11⟩, h10⟩, h9⟩, h8⟩, h7⟩, h6⟩, h5⟩, h4⟩, h3⟩, h2⟩, h1⟩, h0⟩
  all_goals (simp; try omega)

theorem txt_2 : txtBits ((2 : Nat) : Int) = [48, 48, 48, 48, 48, 48, 48, 48, 48, 48, 48, 48, 49, 48, 49, 49] := by decide +kernel
theorem landx_2 (x : Nat) (hx : x < 65536) : Nat.land x 18446744073709551615 = x % 16 + 16 * (x / 16 % 16) + 256 * (x / 256 % 16) + 4096 * (x / 4096 % 16) := by
  rw [land16 x, land16 (x / 16), land16 (x / 16 / 16), land16 (x / 16 / 16 / 16), show x / 16 / 16 / 16 / 16 = 0 by omega, zero_land]
  simp only [Nat.reduceMod, Nat.reduceDiv, land_15]
  omega
theorem dr_2 (x : Nat) (hx : x < 65536) : decRun (x : Int) (txtBits ((2 : Nat) : Int)) 0 dec0 = ⟨decHit (x : Int) ((2 : Nat) : Int), 0, 0, 0, 0⟩ := by
  rw [txt_2, hit_nat x 2 0 11 hx (by decide +kernel) (by decide +kernel) (by decide +kernel) (by decide), show 18446744073709551615 - 0 = 18446744073709551615 from rfl, landx_2 x hx]
  unfold dec0
  repeat (first | rw [dr48] | rw [dr49] | rw [dr110] | rw [dr109] | rw [dr105])
  rw [drNil, DecSt.mk.injEq]
  refine ⟨?_, ?_, ?_, ?_, ?_⟩
  · rw [Bool.eq_iff_iff, Nat.beq_eq]
    simp only [Bool.and_eq_true, beq_iff_eq, true_and, Nat.reduceAdd, Nat.reduceSub, Int.reducePow]
    constructor
    · rintro ⟨⟨⟨⟨⟨⟨⟨⟨⟨⟨⟨⟨⟨⟨⟨h15, h14⟩, h13⟩, h12⟩, h11⟩, h10⟩, h9⟩, h8⟩, h7⟩, h6⟩, h5⟩, h4⟩, h3⟩, h2⟩, h1⟩, h0⟩
      have n3 := (nib3 x 0 0 0 0 (by simp) (by simp) (by simp) (by simp)).1 ⟨h15, h14, h13, h12⟩
      have n2 := (nib2 x 0 0 0 0 (by simp) (by simp) (by simp) (by simp)).1 ⟨h11, h10, h9, h8⟩
      have n1 := (nib1 x 0 0 0 0 (by simp) (by simp) (by simp) (by simp)).1 ⟨h7, h6, h5, h4⟩
      have n0 := (nib0 x 1 0 1 1 (by simp) (by simp) (by simp) (by simp)).1 ⟨h3, h2, h1, h0⟩
      clear h15 h14 h13 h12 h11 h10 h9 h8 h7 h6 h5 h4 h3 h2 h1 h0
      omega
    · intro h
      obtain ⟨h15, h14, h13, h12⟩ := (nib3 x 0 0 0 0 (by simp) (by simp) (by simp) (by simp)).2 (by omega)
      obtain ⟨h11, h10, h9, h8⟩ := (nib2 x 0 0 0 0 (by simp) (by simp) (by simp) (by simp)).2 (by omega)
      obtain ⟨h7, h6, h5, h4⟩ := (nib1 x 0 0 0 0 (by simp) (by simp) (by simp) (by simp)).2 (by omega)
      obtain ⟨h3, h2, h1, h0⟩ := (nib0 x 1 0 1 1 (by simp) (by simp) (by simp) (by simp)).2 (by omega)
      exact ⟨⟨⟨⟨⟨⟨⟨⟨⟨⟨⟨⟨⟨⟨⟨h15, h14⟩, h13⟩, h12⟩, h11⟩, h10⟩, h9⟩, h8⟩, h7⟩, h6⟩, h5⟩, h4⟩, h3⟩, h2⟩, h1⟩, h0⟩
  all_goals (simp; try omega)

theorem txt_3 : txtBits ((3 : Nat) : Int) = [49, 49, 49, 48, 110, 110, 110, 110, 105, 105, 105, 105, 105, 105, 105, 105] := by decide +kernel
theorem landx_3 (x : Nat) (hx : x < 65536) : Nat.land x 18446744073709547520 = 0 + 0 + 0 + 4096 * (x / 4096 % 16) := by
  rw [land16 x, land16 (x / 16), land16 (x / 16 / 16), land16 (x / 16 / 16 / 16), show x / 16 / 16 / 16 / 16 = 0 by omega, zero_land]
  simp only [Nat.reduceMod, Nat.reduceDiv, land_15, land_0]
  omega
theorem dr_3 (x : Nat) (hx : x < 65536) : decRun (x : Int) (txtBits ((3 : Nat) : Int)) 0 dec0 = ⟨decHit (x : Int) ((3 : Nat) : Int), (x / 256 % 16 : Nat), 0, (x % 256 : Nat), 8⟩ := by
  rw [txt_3, hit_nat x 3 4095 57344 hx (by decide +kernel) (by decide +kernel) (by decide +kernel) (by decide), show 18446744073709551615 - 4095 = 18446744073709547520 from rfl, landx_3 x hx]
  unfold dec0
  repeat (first | rw [dr48] | rw [dr49] | rw [dr110] | rw [dr109] | rw [dr105])
  rw [drNil, DecSt.mk.injEq]
  refine ⟨?_, ?_, ?_, ?_, ?_⟩
  · rw [Bool.eq_iff_iff, Nat.beq_eq]
    simp only [Bool.and_eq_true, beq_iff_eq, true_and, Nat.reduceAdd, Nat.reduceSub, Int.reducePow]
    constructor
    · rintro ⟨⟨⟨h15, h14⟩, h13⟩, h12⟩
      have n3 := (nib3 x 1 1 1 0 (by simp) (by simp) (by simp) (by simp)).1 ⟨h15, h14, h13, h12⟩
      clear h15 h14 h13 h12
      omega
    · intro h
      obtain ⟨h15, h14, h13, h12⟩ := (nib3 x 1 1 1 0 (by simp) (by simp) (by simp) (by simp)).2 (by omega)
      exact ⟨⟨⟨h15, h14⟩, h13⟩, h12⟩
  all_goals (simp; try omega)

theorem txt_4 : txtBits ((4 : Nat) : Int) = [48, 49, 49, 49, 110, 110, 110, 110, 105, 105, 105, 105, 105, 105, 105, 105] := by decide +kernel
theorem landx_4 (x : Nat) (hx : x < 65536) : Nat.land x 18446744073709547520 = 0 + 0 + 0 + 4096 * (x / 4096 % 16) := by
  rw [land16 x, land16 (x / 16), land16 (x / 16 / 16), land16 (x / 16 / 16 / 16), show x / 16 / 16 / 16 / 16 = 0 by omega, zero_land]
  simp only [Nat.reduceMod, Nat.reduceDiv, land_15, land_0]
  omega
theorem dr_4 (x : Nat) (hx : x < 65536) : decRun (x : Int) (txtBits ((4 : Nat) : Int)) 0 dec0 = ⟨decHit (x : Int) ((4 : Nat) : Int), (x / 256 % 16 : Nat), 0, (x % 256 : Nat), 8⟩ := by
  rw [txt_4, hit_nat x 4 4095 28672 hx (by decide +kernel) (by decide +kernel) (by decide +kernel) (by decide), show 18446744073709551615 - 4095 = 18446744073709547520 from rfl, landx_4 x hx]
  unfold dec0
  repeat (first | rw [dr48] | rw [dr49] | rw [dr110] | rw [dr109] | rw [dr105])
  rw [drNil, DecSt.mk.injEq]
  refine ⟨?_, ?_, ?_, ?_, ?_⟩
  · rw [Bool.eq_iff_iff, Nat.beq_eq]
    simp only [Bool.and_eq_true, beq_iff_eq, true_and, Nat.reduceAdd, Nat.reduceSub, Int.reducePow]
    constructor
    · rintro ⟨⟨⟨h15, h14⟩, h13⟩, h12⟩
      have n3 := (nib3 x 0 1 1 1 (by simp) (by simp) (by simp) (by simp)).1 ⟨h15, h14, h13, h12⟩
      clear h15 h14 h13 h12
      omega
    · intro h
      obtain ⟨h15, h14, h13, h12⟩ := (nib3 x 0 1 1 1 (by simp) (by simp) (by simp) (by simp)).2 (by omega)
      exact ⟨⟨⟨h15, h14⟩, h13⟩, h12⟩
  all_goals (simp; try omega)

theorem txt_5 : txtBits ((5 : Nat) : Int) = [48, 49, 49, 48, 110, 110, 110, 110, 109, 109, 109, 109, 48, 48, 49, 49] := by decide +kernel
theorem landx_5 (x : Nat) (hx : x < 65536) : Nat.land x 18446744073709547535 = x % 16 + 0 + 0 + 4096 * (x / 4096 % 16) := by
  rw [land16 x, land16 (x / 16), land16 (x / 16 / 16), land16 (x / 16 / 16 / 16), show x / 16 / 16 / 16 / 16 = 0 by omega, zero_land]
  simp only [Nat.reduceMod, Nat.reduceDiv, land_15, land_0]
  omega
theorem dr_5 (x : Nat) (hx : x < 65536) : decRun (x : Int) (txtBits ((5 : Nat) : Int)) 0 dec0 = ⟨decHit (x : Int) ((5 : Nat) : Int), (x / 256 % 16 : Nat), (x / 16 % 16 : Nat), 0, 0⟩ := by
  rw [txt_5, hit_nat x 5 4080 24579 hx (by decide +kernel) (by decide +kernel) (by decide +kernel) (by decide), show 18446744073709551615 - 4080 = 18446744073709547535 from rfl, landx_5 x hx]
  unfold dec0
  repeat (first | rw [dr48] | rw [dr49] | rw [dr110] | rw [dr109] | rw [dr105])
  rw [drNil, DecSt.mk.injEq]
  refine ⟨?_, ?_, ?_, ?_, ?_⟩
  · rw [Bool.eq_iff_iff, Nat.beq_eq]
    simp only [Bool.and_eq_true, beq_iff_eq, true_and, Nat.reduceAdd, Nat.reduceSub, Int.reducePow]
    constructor
    · rintro ⟨⟨⟨⟨⟨⟨⟨h15, h14⟩, h13⟩, h12⟩, h3⟩, h2⟩, h1⟩, h0⟩
      have n3 := (nib3 x 0 1 1 0 (by simp) (by simp) (by simp) (by simp)).1 ⟨h15, h14, h13, h12⟩
      have n0 := (nib0 x 0 0 1 1 (by simp) (by simp) (by simp) (by simp)).1 ⟨h3, h2, h1, h0⟩
      clear h15 h14 h13 h12 h3 h2 h1 h0
      omega
    · intro h
      obtain ⟨h15, h14, h13, h12⟩ := (nib3 x 0 1 1 0 (by simp) (by simp) (by simp) (by simp)).2 (by omega)
      obtain ⟨h3, h2, h1, h0⟩ := (nib0 x 0 0 1 1 (by simp) (by simp) (by simp) (by simp)).2 (by omega)
      exact ⟨⟨⟨⟨⟨⟨⟨h15, h14⟩, h13⟩, h12⟩, h3⟩, h2⟩, h1⟩, h0⟩
  all_goals (simp; try omega)

theorem txt_6 : txtBits ((6 : Nat) : Int) = [48, 48, 49, 49, 110, 110, 110, 110, 109, 109, 109, 109, 49, 49, 48, 48] := by decide +kernel
theorem landx_6 (x : Nat) (hx : x < 65536) : Nat.land x 18446744073709547535 = x % 16 + 0 + 0 + 4096 * (x / 4096 % 16) := by
  rw [land16 x, land16 (x / 16), land16 (x / 16 / 16), land16 (x / 16 / 16 / 16), show x / 16 / 16 / 16 / 16 = 0 by omega, zero_land]
  simp only [Nat.reduceMod, Nat.reduceDiv, land_15, land_0]
  omega
theorem dr_6 (x : Nat) (hx : x < 65536) : decRun (x : Int) (txtBits ((6 : Nat) : Int)) 0 dec0 = ⟨decHit (x : Int) ((6 : Nat) : Int), (x / 256 % 16 : Nat), (x / 16 % 16 : Nat), 0, 0⟩ := by
  rw [txt_6, hit_nat x 6 4080 12300 hx (by decide +kernel) (by decide +kernel) (by decide +kernel) (by decide), show 18446744073709551615 - 4080 = 18446744073709547535 from rfl, landx_6 x hx]
  unfold dec0
  repeat (first | rw [dr48] | rw [dr49] | rw [dr110] | rw [dr109] | rw [dr105])
  rw [drNil, DecSt.mk.injEq]
  refine ⟨?_, ?_, ?_, ?_, ?_⟩
  · rw [Bool.eq_iff_iff, Nat.beq_eq]
    simp only [Bool.and_eq_true, beq_iff_eq, true_and, Nat.reduceAdd, Nat.reduceSub, Int.reducePow]
    constructor
    · rintro ⟨⟨⟨⟨⟨⟨⟨h15, h14⟩, h13⟩, h12⟩, h3⟩, h2⟩, h1⟩, h0⟩
      have n3 := (nib3 x 0 0 1 1 (by simp) (by simp) (by simp) (by simp)).1 ⟨h15, h14, h13, h12⟩
      have n0 := (nib0 x 1 1 0 0 (by simp) (by simp) (by simp) (by simp)).1 ⟨h3, h2, h1, h0⟩
      clear h15 h14 h13 h12 h3 h2 h1 h0
      omega
    · intro h
      obtain ⟨h15, h14, h13, h12⟩ := (nib3 x 0 0 1 1 (by simp) (by simp) (by simp) (by simp)).2 (by omega)
      obtain ⟨h3, h2, h1, h0⟩ := (nib0 x 1 1 0 0 (by simp) (by simp) (by simp) (by simp)).2 (by omega)
      exact ⟨⟨⟨⟨⟨⟨⟨h15, h14⟩, h13⟩, h12⟩, h3⟩, h2⟩, h1⟩, h0⟩
  all_goals (simp; try omega)

theorem txt_7 : txtBits ((7 : Nat) : Int) = [48, 48, 49, 49, 110, 110, 110, 110, 109, 109, 109, 109, 49, 48, 48, 48] := by decide +kernel
theorem landx_7 (x : Nat) (hx : x < 65536) : Nat.land x 18446744073709547535 = x % 16 + 0 + 0 + 4096 * (x / 4096 % 16) := by
  rw [land16 x, land16 (x / 16), land16 (x / 16 / 16), land16 (x / 16 / 16 / 16), show x / 16 / 16 / 16 / 16 = 0 by omega, zero_land]
  simp only [Nat.reduceMod, Nat.reduceDiv, land_15, land_0]
  omega
theorem dr_7 (x : Nat) (hx : x < 65536) : decRun (x : Int) (txtBits ((7 : Nat) : Int)) 0 dec0 = ⟨decHit (x : Int) ((7 : Nat) : Int), (x / 256 % 16 : Nat), (x / 16 % 16 : Nat), 0, 0⟩ := by
  rw [txt_7, hit_nat x 7 4080 12296 hx (by decide +kernel) (by decide +kernel) (by decide +kernel) (by decide), show 18446744073709551615 - 4080 = 18446744073709547535 from rfl, landx_7 x hx]
  unfold dec0
  repeat (first | rw [dr48] | rw [dr49] | rw [dr110] | rw [dr109] | rw [dr105])
  rw [drNil, DecSt.mk.injEq]
  refine ⟨?_, ?_, ?_, ?_, ?_⟩
  · rw [Bool.eq_iff_iff, Nat.beq_eq]
    simp only [Bool.and_eq_true, beq_iff_eq, true_and, Nat.reduceAdd, Nat.reduceSub, Int.reducePow]
    constructor
    · rintro ⟨⟨⟨⟨⟨⟨⟨h15, h14⟩, h13⟩, h12⟩, h3⟩, h2⟩, h1⟩, h0⟩
      have n3 := (nib3 x 0 0 1 1 (by simp) (by simp) (by simp) (by simp)).1 ⟨h15, h14, h13, h12⟩
      have n0 := (nib0 x 1 0 0 0 (by simp) (by simp) (by simp) (by simp)).1 ⟨h3, h2, h1, h0⟩
      clear h15 h14 h13 h12 h3 h2 h1 h0
      omega
    · intro h
      obtain ⟨h15, h14, h13, h12⟩ := (nib3 x 0 0 1 1 (by simp) (by simp) (by simp) (by simp)).2 (by omega)
      obtain ⟨h3, h2, h1, h0⟩ := (nib0 x 1 0 0 0 (by simp) (by simp) (by simp) (by simp)).2 (by omega)
      exact ⟨⟨⟨⟨⟨⟨⟨h15, h14⟩, h13⟩, h12⟩, h3⟩, h2⟩, h1⟩, h0⟩
  all_goals (simp; try omega)

theorem txt_8 : txtBits ((8 : Nat) : Int) = [48, 48, 49, 48, 110, 110, 110, 110, 109, 109, 109, 109, 49, 48, 48, 49] := by decide +kernel
theorem landx_8 (x : Nat) (hx : x < 65536) : Nat.land x 18446744073709547535 = x % 16 + 0 + 0 + 4096 * (x / 4096 % 16) := by
  rw [land16 x, land16 (x / 16), land16 (x / 16 / 16), land16 (x / 16 / 16 / 16), show x / 16 / 16 / 16 / 16 = 0 by omega, zero_land]
  simp only [Nat.reduceMod, Nat.reduceDiv, land_15, land_0]
  omega
theorem dr_8 (x : Nat) (hx : x < 65536) : decRun (x : Int) (txtBits ((8 : Nat) : Int)) 0 dec0 = ⟨decHit (x : Int) ((8 : Nat) : Int), (x / 256 % 16 : Nat), (x / 16 % 16 : Nat), 0, 0⟩ := by
  rw [txt_8, hit_nat x 8 4080 8201 hx (by decide +kernel) (by decide +kernel) (by decide +kernel) (by decide), show 18446744073709551615 - 4080 = 18446744073709547535 from rfl, landx_8 x hx]
  unfold dec0
  repeat (first | rw [dr48] | rw [dr49] | rw [dr110] | rw [dr109] | rw [dr105])
  rw [drNil, DecSt.mk.injEq]
  refine ⟨?_, ?_, ?_, ?_, ?_⟩
  · rw [Bool.eq_iff_iff, Nat.beq_eq]
    simp only [Bool.and_eq_true, beq_iff_eq, true_and, Nat.reduceAdd, Nat.reduceSub, Int.reducePow]
    constructor
    · rintro ⟨⟨⟨⟨⟨⟨⟨h15, h14⟩, h13⟩, h12⟩, h3⟩, h2⟩, h1⟩, h0⟩
      have n3 := (nib3 x 0 0 1 0 (by simp) (by simp) (by simp) (by simp)).1 ⟨h15, h14, h13, h12⟩
      have n0 := (nib0 x 1 0 0 1 (by simp) (by simp) (by simp) (by simp)).1 ⟨h3, h2, h1, h0⟩
      clear h15 h14 h13 h12 h3 h2 h1 h0
      omega
    · intro h
      obtain ⟨h15, h14, h13, h12⟩ := (nib3 x 0 0 1 0 (by simp) (by simp) (by simp) (by simp)).2 (by omega)
      obtain ⟨h3, h2, h1, h0⟩ := (nib0 x 1 0 0 1 (by simp) (by simp) (by simp) (by simp)).2 (by omega)
      exact ⟨⟨⟨⟨⟨⟨⟨h15, h14⟩, h13⟩, h12⟩, h3⟩, h2⟩, h1⟩, h0⟩
  all_goals (simp; try omega)

theorem txt_9 : txtBits ((9 : Nat) : Int) = [48, 48, 49, 48, 110, 110, 110, 110, 109, 109, 109, 109, 49, 48, 49, 49] := by decide +kernel
theorem landx_9 (x : Nat) (hx : x < 65536) : Nat.land x 18446744073709547535 = x % 16 + 0 + 0 + 4096 * (x / 4096 % 16) := by
  rw [land16 x, land16 (x / 16), land16 (x / 16 / 16), land16 (x / 16 / 16 / 16), show x / 16 / 16 / 16 / 16 = 0 by omega, zero_land]
  simp only [Nat.reduceMod, Nat.reduceDiv, land_15, land_0]
  omega
theorem dr_9 (x : Nat) (hx : x < 65536) : decRun (x : Int) (txtBits ((9 : Nat) : Int)) 0 dec0 = ⟨decHit (x : Int) ((9 : Nat) : Int), (x / 256 % 16 : Nat), (x / 16 % 16 : Nat), 0, 0⟩ := by
  rw [txt_9, hit_nat x 9 4080 8203 hx (by decide +kernel) (by decide +kernel) (by decide +kernel) (by decide), show 18446744073709551615 - 4080 = 18446744073709547535 from rfl, landx_9 x hx]
  unfold dec0
  repeat (first | rw [dr48] | rw [dr49] | rw [dr110] | rw [dr109] | rw [dr105])
  rw [drNil, DecSt.mk.injEq]
  refine ⟨?_, ?_, ?_, ?_, ?_⟩
  · rw [Bool.eq_iff_iff, Nat.beq_eq]
    simp only [Bool.and_eq_true, beq_iff_eq, true_and, Nat.reduceAdd, Nat.reduceSub, Int.reducePow]
    constructor
    · rintro ⟨⟨⟨⟨⟨⟨⟨h15, h14⟩, h13⟩, h12⟩, h3⟩, h2⟩, h1⟩, h0⟩
      have n3 := (nib3 x 0 0 1 0 (by simp) (by simp) (by simp) (by simp)).1 ⟨h15, h14, h13, h12⟩
      have n0 := (nib0 x 1 0 1 1 (by simp) (by simp) (by simp) (by simp)).1 ⟨h3, h2, h1, h0⟩
      clear h15 h14 h13 h12 h3 h2 h1 h0
      omega
    · intro h
      obtain ⟨h15, h14, h13, h12⟩ := (nib3 x 0 0 1 0 (by simp) (by simp) (by simp) (by simp)).2 (by omega)
      obtain ⟨h3, h2, h1, h0⟩ := (nib0 x 1 0 1 1 (by simp) (by simp) (by simp) (by simp)).2 (by omega)
      exact ⟨⟨⟨⟨⟨⟨⟨h15, h14⟩, h13⟩, h12⟩, h3⟩, h2⟩, h1⟩, h0⟩
  all_goals (simp; try omega)

theorem txt_10 : txtBits ((10 : Nat) : Int) = [48, 48, 49, 48, 110, 110, 110, 110, 109, 109, 109, 109, 49, 48, 49, 48] := by decide +kernel
theorem landx_10 (x : Nat) (hx : x < 65536) : Nat.land x 18446744073709547535 = x % 16 + 0 + 0 + 4096 * (x / 4096 % 16) := by
  rw [land16 x, land16 (x / 16), land16 (x / 16 / 16), land16 (x / 16 / 16 / 16), show x / 16 / 16 / 16 / 16 = 0 by omega, zero_land]
  simp only [Nat.reduceMod, Nat.reduceDiv, land_15, land_0]
  omega
theorem dr_10 (x : Nat) (hx : x < 65536) : decRun (x : Int) (txtBits ((10 : Nat) : Int)) 0 dec0 = ⟨decHit (x : Int) ((10 : Nat) : Int), (x / 256 % 16 : Nat), (x / 16 % 16 : Nat), 0, 0⟩ := by
  rw [txt_10, hit_nat x 10 4080 8202 hx (by decide +kernel) (by decide +kernel) (by decide +kernel) (by decide), show 18446744073709551615 - 4080 = 18446744073709547535 from rfl, landx_10 x hx]
  unfold dec0
  repeat (first | rw [dr48] | rw [dr49] | rw [dr110] | rw [dr109] | rw [dr105])
  rw [drNil, DecSt.mk.injEq]
  refine ⟨?_, ?_, ?_, ?_, ?_⟩
  · rw [Bool.eq_iff_iff, Nat.beq_eq]
    simp only [Bool.and_eq_true, beq_iff_eq, true_and, Nat.reduceAdd, Nat.reduceSub, Int.reducePow]
    constructor
    · rintro ⟨⟨⟨⟨⟨⟨⟨h15, h14⟩, h13⟩, h12⟩, h3⟩, h2⟩, h1⟩, h0⟩
      have n3 := (nib3 x 0 0 1 0 (by simp) (by simp) (by simp) (by simp)).1 ⟨h15, h14, h13, h12⟩
      have n0 := (nib0 x 1 0 1 0 (by simp) (by simp) (by simp) (by simp)).1 ⟨h3, h2, h1, h0⟩
      clear h15 h14 h13 h12 h3 h2 h1 h0
      omega
    · intro h
      obtain ⟨h15, h14, h13, h12⟩ := (nib3 x 0 0 1 0 (by simp) (by simp) (by simp) (by simp)).2 (by omega)
      obtain ⟨h3, h2, h1, h0⟩ := (nib0 x 1 0 1 0 (by simp) (by simp) (by simp) (by simp)).2 (by omega)
      exact ⟨⟨⟨⟨⟨⟨⟨h15, h14⟩, h13⟩, h12⟩, h3⟩, h2⟩, h1⟩, h0⟩
  all_goals (simp; try omega)

theorem txt_11 : txtBits ((11 : Nat) : Int) = [48, 48, 49, 48, 110, 110, 110, 110, 109, 109, 109, 109, 49, 48, 48, 48] := by decide +kernel
theorem landx_11 (x : Nat) (hx : x < 65536) : Nat.land x 18446744073709547535 = x % 16 + 0 + 0 + 4096 * (x / 4096 % 16) := by
  rw [land16 x, land16 (x / 16), land16 (x / 16 / 16), land16 (x / 16 / 16 / 16), show x / 16 / 16 / 16 / 16 = 0 by omega, zero_land]
  simp only [Nat.reduceMod, Nat.reduceDiv, land_15, land_0]
  omega
theorem dr_11 (x : Nat) (hx : x < 65536) : decRun (x : Int) (txtBits ((11 : Nat) : Int)) 0 dec0 = ⟨decHit (x : Int) ((11 : Nat) : Int), (x / 256 % 16 : Nat), (x / 16 % 16 : Nat), 0, 0⟩ := by
  rw [txt_11, hit_nat x 11 4080 8200 hx (by decide +kernel) (by decide +kernel) (by decide +kernel) (by decide), show 18446744073709551615 - 4080 = 18446744073709547535 from rfl, landx_11 x hx]
  unfold dec0
  repeat (first | rw [dr48] | rw [dr49] | rw [dr110] | rw [dr109] | rw [dr105])
  rw [drNil, DecSt.mk.injEq]
  refine ⟨?_, ?_, ?_, ?_, ?_⟩
  · rw [Bool.eq_iff_iff, Nat.beq_eq]
    simp only [Bool.and_eq_true, beq_iff_eq, true_and, Nat.reduceAdd, Nat.reduceSub, Int.reducePow]
    constructor
    · rintro ⟨⟨⟨⟨⟨⟨⟨h15, h14⟩, h13⟩, h12⟩, h3⟩, h2⟩, h1⟩, h0⟩
      have n3 := (nib3 x 0 0 1 0 (by simp) (by simp) (by simp) (by simp)).1 ⟨h15, h14, h13, h12⟩
      have n0 := (nib0 x 1 0 0 0 (by simp) (by simp) (by simp) (by simp)).1 ⟨h3, h2, h1, h0⟩
      clear h15 h14 h13 h12 h3 h2 h1 h0
      omega
    · intro h
      obtain ⟨h15, h14, h13, h12⟩ := (nib3 x 0 0 1 0 (by simp) (by simp) (by simp) (by simp)).2 (by omega)
      obtain ⟨h3, h2, h1, h0⟩ := (nib0 x 1 0 0 0 (by simp) (by simp) (by simp) (by simp)).2 (by omega)
      exact ⟨⟨⟨⟨⟨⟨⟨h15, h14⟩, h13⟩, h12⟩, h3⟩, h2⟩, h1⟩, h0⟩
  all_goals (simp; try omega)

theorem txt_12 : txtBits ((12 : Nat) : Int) = [48, 48, 49, 49, 110, 110, 110, 110, 109, 109, 109, 109, 48, 48, 48, 48] := by decide +kernel
theorem landx_12 (x : Nat) (hx : x < 65536) : Nat.land x 18446744073709547535 = x % 16 + 0 + 0 + 4096 * (x / 4096 % 16) := by
  rw [land16 x, land16 (x / 16), land16 (x / 16 / 16), land16 (x / 16 / 16 / 16), show x / 16 / 16 / 16 / 16 = 0 by omega, zero_land]
  simp only [Nat.reduceMod, Nat.reduceDiv, land_15, land_0]
  omega
theorem dr_12 (x : Nat) (hx : x < 65536) : decRun (x : Int) (txtBits ((12 : Nat) : Int)) 0 dec0 = ⟨decHit (x : Int) ((12 : Nat) : Int), (x / 256 % 16 : Nat), (x / 16 % 16 : Nat), 0, 0⟩ := by
  rw [txt_12, hit_nat x 12 4080 12288 hx (by decide +kernel) (by decide +kernel) (by decide +kernel) (by decide), show 18446744073709551615 - 4080 = 18446744073709547535 from rfl, landx_12 x hx]
  unfold dec0
  repeat (first | rw [dr48] | rw [dr49] | rw [dr110] | rw [dr109] | rw [dr105])
  rw [drNil, DecSt.mk.injEq]
  refine ⟨?_, ?_, ?_, ?_, ?_⟩
  · rw [Bool.eq_iff_iff, Nat.beq_eq]
    simp only [Bool.and_eq_true, beq_iff_eq, true_and, Nat.reduceAdd, Nat.reduceSub, Int.reducePow]
    constructor
    · rintro ⟨⟨⟨⟨⟨⟨⟨h15, h14⟩, h13⟩, h12⟩, h3⟩, h2⟩, h1⟩, h0⟩
      have n3 := (nib3 x 0 0 1 1 (by simp) (by simp) (by simp) (by simp)).1 ⟨h15, h14, h13, h12⟩
      have n0 := (nib0 x 0 0 0 0 (by simp) (by simp) (by simp) (by simp)).1 ⟨h3, h2, h1, h0⟩
      clear h15 h14 h13 h12 h3 h2 h1 h0
      omega
    · intro h
      obtain ⟨h15, h14, h13, h12⟩ := (nib3 x 0 0 1 1 (by simp) (by simp) (by simp) (by simp)).2 (by omega)
      obtain ⟨h3, h2, h1, h0⟩ := (nib0 x 0 0 0 0 (by simp) (by simp) (by simp) (by simp)).2 (by omega)
      exact ⟨⟨⟨⟨⟨⟨⟨h15, h14⟩, h13⟩, h12⟩, h3⟩, h2⟩, h1⟩, h0⟩
  all_goals (simp; try omega)

theorem txt_13 : txtBits ((13 : Nat) : Int) = [48, 48, 49, 49, 110, 110, 110, 110, 109, 109, 109, 109, 48, 49, 49, 49] := by decide +kernel
theorem landx_13 (x : Nat) (hx : x < 65536) : Nat.land x 18446744073709547535 = x % 16 + 0 + 0 + 4096 * (x / 4096 % 16) := by
  rw [land16 x, land16 (x / 16), land16 (x / 16 / 16), land16 (x / 16 / 16 / 16), show x / 16 / 16 / 16 / 16 = 0 by omega, zero_land]
  simp only [Nat.reduceMod, Nat.reduceDiv, land_15, land_0]
  omega
theorem dr_13 (x : Nat) (hx : x < 65536) : decRun (x : Int) (txtBits ((13 : Nat) : Int)) 0 dec0 = ⟨decHit (x : Int) ((13 : Nat) : Int), (x / 256 % 16 : Nat), (x / 16 % 16 : Nat), 0, 0⟩ := by
  rw [txt_13, hit_nat x 13 4080 12295 hx (by decide +kernel) (by decide +kernel) (by decide +kernel) (by decide), show 18446744073709551615 - 4080 = 18446744073709547535 from rfl, landx_13 x hx]
  unfold dec0
  repeat (first | rw [dr48] | rw [dr49] | rw [dr110] | rw [dr109] | rw [dr105])
  rw [drNil, DecSt.mk.injEq]
  refine ⟨?_, ?_, ?_, ?_, ?_⟩
  · rw [Bool.eq_iff_iff, Nat.beq_eq]
    simp only [Bool.and_eq_true, beq_iff_eq, true_and, Nat.reduceAdd, Nat.reduceSub, Int.reducePow]
    constructor
    · rintro ⟨⟨⟨⟨⟨⟨⟨h15, h14⟩, h13⟩, h12⟩, h3⟩, h2⟩, h1⟩, h0⟩
      have n3 := (nib3 x 0 0 1 1 (by simp) (by simp) (by simp) (by simp)).1 ⟨h15, h14, h13, h12⟩
      have n0 := (nib0 x 0 1 1 1 (by simp) (by simp) (by simp) (by simp)).1 ⟨h3, h2, h1, h0⟩
      clear h15 h14 h13 h12 h3 h2 h1 h0
      omega
    · intro h
      obtain ⟨h15, h14, h13, h12⟩ := (nib3 x 0 0 1 1 (by simp) (by simp) (by simp) (by simp)).2 (by omega)
      obtain ⟨h3, h2, h1, h0⟩ := (nib0 x 0 1 1 1 (by simp) (by simp) (by simp) (by simp)).2 (by omega)
      exact ⟨⟨⟨⟨⟨⟨⟨h15, h14⟩, h13⟩, h12⟩, h3⟩, h2⟩, h1⟩, h0⟩
  all_goals (simp; try omega)

theorem txt_14 : txtBits ((14 : Nat) : Int) = [48, 49, 48, 48, 110, 110, 110, 110, 48, 48, 48, 48, 48, 48, 48, 48] := by decide +kernel
theorem landx_14 (x : Nat) (hx : x < 65536) : Nat.land x 18446744073709547775 = x % 16 + 16 * (x / 16 % 16) + 0 + 4096 * (x / 4096 % 16) := by
  rw [land16 x, land16 (x / 16), land16 (x / 16 / 16), land16 (x / 16 / 16 / 16), show x / 16 / 16 / 16 / 16 = 0 by omega, zero_land]
  simp only [Nat.reduceMod, Nat.reduceDiv, land_15, land_0]
  omega
theorem dr_14 (x : Nat) (hx : x < 65536) : decRun (x : Int) (txtBits ((14 : Nat) : Int)) 0 dec0 = ⟨decHit (x : Int) ((14 : Nat) : Int), (x / 256 % 16 : Nat), 0, 0, 0⟩ := by
  rw [txt_14, hit_nat x 14 3840 16384 hx (by decide +kernel) (by decide +kernel) (by decide +kernel) (by decide), show 18446744073709551615 - 3840 = 18446744073709547775 from rfl, landx_14 x hx]
  unfold dec0
  repeat (first | rw [dr48] | rw [dr49] | rw [dr110] | rw [dr109] | rw [dr105])
  rw [drNil, DecSt.mk.injEq]
  refine ⟨?_, ?_, ?_, ?_, ?_⟩
  · rw [Bool.eq_iff_iff, Nat.beq_eq]
    simp only [Bool.and_eq_true, beq_iff_eq, true_and, Nat.reduceAdd, Nat.reduceSub, Int.reducePow]
    constructor
    · rintro ⟨⟨⟨⟨⟨⟨⟨⟨⟨⟨⟨h15, h14⟩, h13⟩, h12⟩, h7⟩, h6⟩, h5⟩, h4⟩, h3⟩, h2⟩, h1⟩, h0⟩
      have n3 := (nib3 x 0 1 0 0 (by simp) (by simp) (by simp) (by simp)).1 ⟨h15, h14, h13, h12⟩
      have n1 := (nib1 x 0 0 0 0 (by simp) (by simp) (by simp) (by simp)).1 ⟨h7, h6, h5, h4⟩
      have n0 := (nib0 x 0 0 0 0 (by simp) (by simp) (by simp) (by simp)).1 ⟨h3, h2, h1, h0⟩
      clear h15 h14 h13 h12 h7 h6 h5 h4 h3 h2 h1 h0
      omega
    · intro h
      obtain ⟨h15, h14, h13, h12⟩ := (nib3 x 0 1 0 0 (by simp) (by simp) (by simp) (by simp)).2 (by omega)
      obtain ⟨h7, h6, h5, h4⟩ := (nib1 x 0 0 0 0 (by simp) (by simp) (by simp) (by simp)).2 (by omega)
      obtain ⟨h3, h2, h1, h0⟩ := (nib0 x 0 0 0 0 (by simp) (by simp) (by simp) (by simp)).2 (by omega)
      exact ⟨⟨⟨⟨⟨⟨⟨⟨⟨⟨⟨h15, h14⟩, h13⟩, h12⟩, h7⟩, h6⟩, h5⟩, h4⟩, h3⟩, h2⟩, h1⟩, h0⟩
  all_goals (simp; try omega)

theorem txt_15 : txtBits ((15 : Nat) : Int) = [48, 49, 48, 48, 110, 110, 110, 110, 48, 48, 48, 48, 48, 48, 48, 49] := by decide +kernel
theorem landx_15 (x : Nat) (hx : x < 65536) : Nat.land x 18446744073709547775 = x % 16 + 16 * (x / 16 % 16) + 0 + 4096 * (x / 4096 % 16) := by
  rw [land16 x, land16 (x / 16), land16 (x / 16 / 16), land16 (x / 16 / 16 / 16), show x / 16 / 16 / 16 / 16 = 0 by omega, zero_land]
  simp only [Nat.reduceMod, Nat.reduceDiv, land_15, land_0]
  omega
theorem dr_15 (x : Nat) (hx : x < 65536) : decRun (x : Int) (txtBits ((15 : Nat) : Int)) 0 dec0 = ⟨decHit (x : Int) ((15 : Nat) : Int), (x / 256 % 16 : Nat), 0, 0, 0⟩ := by
  rw [txt_15, hit_nat x 15 3840 16385 hx (by decide +kernel) (by decide +kernel) (by decide +kernel) (by decide), show 18446744073709551615 - 3840 = 18446744073709547775 from rfl, landx_15 x hx]
  unfold dec0
  repeat (first | rw [dr48] | rw [dr49] | rw [dr110] | rw [dr109] | rw [dr105])
  rw [drNil, DecSt.mk.injEq]
  refine ⟨?_, ?_, ?_, ?_, ?_⟩
  · rw [Bool.eq_iff_iff, Nat.beq_eq]
    simp only [Bool.and_eq_true, beq_iff_eq, true_and, Nat.reduceAdd, Nat.reduceSub, Int.reducePow]
    constructor
    · rintro ⟨⟨⟨⟨⟨⟨⟨⟨⟨⟨⟨h15, h14⟩, h13⟩, h12⟩, h7⟩, h6⟩, h5⟩, h4⟩, h3⟩, h2⟩, h1⟩, h0⟩
      have n3 := (nib3 x 0 1 0 0 (by simp) (by simp) (by simp) (by simp)).1 ⟨h15, h14, h13, h12⟩
      have n1 := (nib1 x 0 0 0 0 (by simp) (by simp) (by simp) (by simp)).1 ⟨h7, h6, h5, h4⟩
      have n0 := (nib0 x 0 0 0 1 (by simp) (by simp) (by simp) (by simp)).1 ⟨h3, h2, h1, h0⟩
      clear h15 h14 h13 h12 h7 h6 h5 h4 h3 h2 h1 h0
      omega
    · intro h
      obtain ⟨h15, h14, h13, h12⟩ := (nib3 x 0 1 0 0 (by simp) (by simp) (by simp) (by simp)).2 (by omega)
      obtain ⟨h7, h6, h5, h4⟩ := (nib1 x 0 0 0 0 (by simp) (by simp) (by simp) (by simp)).2 (by omega)
      obtain ⟨h3, h2, h1, h0⟩ := (nib0 x 0 0 0 1 (by simp) (by simp) (by simp) (by simp)).2 (by omega)
      exact ⟨⟨⟨⟨⟨⟨⟨⟨⟨⟨⟨h15, h14⟩, h13⟩, h12⟩, h7⟩, h6⟩, h5⟩, h4⟩, h3⟩, h2⟩, h1⟩, h0⟩
  all_goals (simp; try omega)

theorem txt_16 : txtBits ((16 : Nat) : Int) = [48, 49, 48, 48, 110, 110, 110, 110, 48, 48, 48, 49, 48, 48, 48, 48] := by decide +kernel
theorem landx_16 (x : Nat) (hx : x < 65536) : Nat.land x 18446744073709547775 = x % 16 + 16 * (x / 16 % 16) + 0 + 4096 * (x / 4096 % 16) := by
  rw [land16 x, land16 (x / 16), land16 (x / 16 / 16), land16 (x / 16 / 16 / 16), show x / 16 / 16 / 16 / 16 = 0 by omega, zero_land]
  simp only [Nat.reduceMod, Nat.reduceDiv, land_15, land_0]
  omega
theorem dr_16 (x : Nat) (hx : x < 65536) : decRun (x : Int) (txtBits ((16 : Nat) : Int)) 0 dec0 = ⟨decHit (x : Int) ((16 : Nat) : Int), (x / 256 % 16 : Nat), 0, 0, 0⟩ := by
  rw [txt_16, hit_nat x 16 3840 16400 hx (by decide +kernel) (by decide +kernel) (by decide +kernel) (by decide), show 18446744073709551615 - 3840 = 18446744073709547775 from rfl, landx_16 x hx]
  unfold dec0
  repeat (first | rw [dr48] | rw [dr49] | rw [dr110] | rw [dr109] | rw [dr105])
  rw [drNil, DecSt.mk.injEq]
  refine ⟨?_, ?_, ?_, ?_, ?_⟩
  · rw [Bool.eq_iff_iff, Nat.beq_eq]
    simp only [Bool.and_eq_true, beq_iff_eq, true_and, Nat.reduceAdd, Nat.reduceSub, Int.reducePow]
    constructor
    · rintro ⟨⟨⟨⟨⟨⟨⟨⟨⟨⟨⟨h15, h14⟩, h13⟩, h12⟩, h7⟩, h6⟩, h5⟩, h4⟩, h3⟩, h2⟩, h1⟩, h0⟩
      have n3 := (nib3 x 0 1 0 0 (by simp) (by simp) (by simp) (by simp)).1 ⟨h15, h14, h13, h12⟩
      have n1 := (nib1 x 0 0 0 1 (by simp) (by simp) (by simp) (by simp)).1 ⟨h7, h6, h5, h4⟩
      have n0 := (nib0 x 0 0 0 0 (by simp) (by simp) (by simp) (by simp)).1 ⟨h3, h2, h1, h0⟩
      clear h15 h14 h13 h12 h7 h6 h5 h4 h3 h2 h1 h0
      omega
    · intro h
      obtain ⟨h15, h14, h13, h12⟩ := (nib3 x 0 1 0 0 (by simp) (by simp) (by simp) (by simp)).2 (by omega)
      obtain ⟨h7, h6, h5, h4⟩ := (nib1 x 0 0 0 1 (by simp) (by simp) (by simp) (by simp)).2 (by omega)
      obtain ⟨h3, h2, h1, h0⟩ := (nib0 x 0 0 0 0 (by simp) (by simp) (by simp) (by simp)).2 (by omega)
      exact ⟨⟨⟨⟨⟨⟨⟨⟨⟨⟨⟨h15, h14⟩, h13⟩, h12⟩, h7⟩, h6⟩, h5⟩, h4⟩, h3⟩, h2⟩, h1⟩, h0⟩
  all_goals (simp; try omega)

theorem txt_17 : txtBits ((17 : Nat) : Int) = [49, 48, 48, 48, 49, 48, 48, 49, 105, 105, 105, 105, 105, 105, 105, 105] := by decide +kernel
theorem landx_17 (x : Nat) (hx : x < 65536) : Nat.land x 18446744073709551360 = 0 + 0 + 256 * (x / 256 % 16) + 4096 * (x / 4096 % 16) := by
  rw [land16 x, land16 (x / 16), land16 (x / 16 / 16), land16 (x / 16 / 16 / 16), show x / 16 / 16 / 16 / 16 = 0 by omega, zero_land]
  simp only [Nat.reduceMod, Nat.reduceDiv, land_15, land_0]
  omega
theorem dr_17 (x : Nat) (hx : x < 65536) : decRun (x : Int) (txtBits ((17 : Nat) : Int)) 0 dec0 = ⟨decHit (x : Int) ((17 : Nat) : Int), 0, 0, (x % 256 : Nat), 8⟩ := by
  rw [txt_17, hit_nat x 17 255 35072 hx (by decide +kernel) (by decide +kernel) (by decide +kernel) (by decide), show 18446744073709551615 - 255 = 18446744073709551360 from rfl, landx_17 x hx]
  unfold dec0
  repeat (first | rw [dr48] | rw [dr49] | rw [dr110] | rw [dr109] | rw [dr105])
  rw [drNil, DecSt.mk.injEq]
  refine ⟨?_, ?_, ?_, ?_, ?_⟩
  · rw [Bool.eq_iff_iff, Nat.beq_eq]
    simp only [Bool.and_eq_true, beq_iff_eq, true_and, Nat.reduceAdd, Nat.reduceSub, Int.reducePow]
    constructor
    · rintro ⟨⟨⟨⟨⟨⟨⟨h15, h14⟩, h13⟩, h12⟩, h11⟩, h10⟩, h9⟩, h8⟩
      have n3 := (nib3 x 1 0 0 0 (by simp) (by simp) (by simp) (by simp)).1 ⟨h15, h14, h13, h12⟩
      have n2 := (nib2 x 1 0 0 1 (by simp) (by simp) (by simp) (by simp)).1 ⟨h11, h10, h9, h8⟩
      clear h15 h14 h13 h12 h11 h10 h9 h8
      omega
    · intro h
      obtain ⟨h15, h14, h13, h12⟩ := (nib3 x 1 0 0 0 (by simp) (by simp) (by simp) (by simp)).2 (by omega)
      obtain ⟨h11, h10, h9, h8⟩ := (nib2 x 1 0 0 1 (by simp) (by simp) (by simp) (by simp)).2 (by omega)
      exact ⟨⟨⟨⟨⟨⟨⟨h15, h14⟩, h13⟩, h12⟩, h11⟩, h10⟩, h9⟩, h8⟩
  all_goals (simp; try omega)

theorem txt_18 : txtBits ((18 : Nat) : Int) = [49, 48, 48, 48, 49, 48, 49, 49, 105, 105, 105, 105, 105, 105, 105, 105] := by decide +kernel
theorem landx_18 (x : Nat) (hx : x < 65536) : Nat.land x 18446744073709551360 = 0 + 0 + 256 * (x / 256 % 16) + 4096 * (x / 4096 % 16) := by
  rw [land16 x, land16 (x / 16), land16 (x / 16 / 16), land16 (x / 16 / 16 / 16), show x / 16 / 16 / 16 / 16 = 0 by omega, zero_land]
  simp only [Nat.reduceMod, Nat.reduceDiv, land_15, land_0]
  omega
theorem dr_18 (x : Nat) (hx : x < 65536) : decRun (x : Int) (txtBits ((18 : Nat) : Int)) 0 dec0 = ⟨decHit (x : Int) ((18 : Nat) : Int), 0, 0, (x % 256 : Nat), 8⟩ := by
  rw [txt_18, hit_nat x 18 255 35584 hx (by decide +kernel) (by decide +kernel) (by decide +kernel) (by decide), show 18446744073709551615 - 255 = 18446744073709551360 from rfl, landx_18 x hx]
  unfold dec0
  repeat (first | rw [dr48] | rw [dr49] | rw [dr110] | rw [dr109] | rw [dr105])
  rw [drNil, DecSt.mk.injEq]
  refine ⟨?_, ?_, ?_, ?_, ?_⟩
  · rw [Bool.eq_iff_iff, Nat.beq_eq]
    simp only [Bool.and_eq_true, beq_iff_eq, true_and, Nat.reduceAdd, Nat.reduceSub, Int.reducePow]
    constructor
    · rintro ⟨⟨⟨⟨⟨⟨⟨h15, h14⟩, h13⟩, h12⟩, h11⟩, h10⟩, h9⟩, h8⟩
      have n3 := (nib3 x 1 0 0 0 (by simp) (by simp) (by simp) (by simp)).1 ⟨h15, h14, h13, h12⟩
      have n2 := (nib2 x 1 0 1 1 (by simp) (by simp) (by simp) (by simp)).1 ⟨h11, h10, h9, h8⟩
      clear h15 h14 h13 h12 h11 h10 h9 h8
      omega
    · intro h
      obtain ⟨h15, h14, h13, h12⟩ := (nib3 x 1 0 0 0 (by simp) (by simp) (by simp) (by simp)).2 (by omega)
      obtain ⟨h11, h10, h9, h8⟩ := (nib2 x 1 0 1 1 (by simp) (by simp) (by simp) (by simp)).2 (by omega)
      exact ⟨⟨⟨⟨⟨⟨⟨h15, h14⟩, h13⟩, h12⟩, h11⟩, h10⟩, h9⟩, h8⟩
  all_goals (simp; try omega)

theorem txt_19 : txtBits ((19 : Nat) : Int) = [49, 48, 49, 48, 105, 105, 105, 105, 105, 105, 105, 105, 105, 105, 105, 105] := by decide +kernel
theorem landx_19 (x : Nat) (hx : x < 65536) : Nat.land x 18446744073709547520 = 0 + 0 + 0 + 4096 * (x / 4096 % 16) := by
  rw [land16 x, land16 (x / 16), land16 (x / 16 / 16), land16 (x / 16 / 16 / 16), show x / 16 / 16 / 16 / 16 = 0 by omega, zero_land]
  simp only [Nat.reduceMod, Nat.reduceDiv, land_15, land_0]
  omega
set_option maxHeartbeats 2000000 in
theorem dr_19 (x : Nat) (hx : x < 65536) : decRun (x : Int) (txtBits ((19 : Nat) : Int)) 0 dec0 = ⟨decHit (x : Int) ((19 : Nat) : Int), 0, 0, (x % 4096 : Nat), 12⟩ := by
  rw [txt_19, hit_nat x 19 4095 40960 hx (by decide +kernel) (by decide +kernel) (by decide +kernel) (by decide), show 18446744073709551615 - 4095 = 18446744073709547520 from rfl, landx_19 x hx]
  unfold dec0
  repeat (first | rw [dr48] | rw [dr49] | rw [dr110] | rw [dr109] | rw [dr105])
  rw [drNil, DecSt.mk.injEq]
  refine ⟨?_, ?_, ?_, ?_, ?_⟩
  · rw [Bool.eq_iff_iff, Nat.beq_eq]
    simp only [Bool.and_eq_true, beq_iff_eq, true_and, Nat.reduceAdd, Nat.reduceSub, Int.reducePow]
    constructor
    · rintro ⟨⟨⟨h15, h14⟩, h13⟩, h12⟩
      have n3 := (nib3 x 1 0 1 0 (by simp) (by simp) (by simp) (by simp)).1 ⟨h15, h14, h13, h12⟩
      clear h15 h14 h13 h12
      omega
    · intro h
      obtain ⟨h15, h14, h13, h12⟩ := (nib3 x 1 0 1 0 (by simp) (by simp) (by simp) (by simp)).2 (by omega)
      exact ⟨⟨⟨h15, h14⟩, h13⟩, h12⟩
  all_goals (simp; try omega)

theorem txt_20 : txtBits ((20 : Nat) : Int) = [49, 48, 49, 49, 105, 105, 105, 105, 105, 105, 105, 105, 105, 105, 105, 105] := by decide +kernel
theorem landx_20 (x : Nat) (hx : x < 65536) : Nat.land x 18446744073709547520 = 0 + 0 + 0 + 4096 * (x / 4096 % 16) := by
  rw [land16 x, land16 (x / 16), land16 (x / 16 / 16), land16 (x / 16 / 16 / 16), show x / 16 / 16 / 16 / 16 = 0 by omega, zero_land]
  simp only [Nat.reduceMod, Nat.reduceDiv, land_15, land_0]
  omega
set_option maxHeartbeats 2000000 in
theorem dr_20 (x : Nat) (hx : x < 65536) : decRun (x : Int) (txtBits ((20 : Nat) : Int)) 0 dec0 = ⟨decHit (x : Int) ((20 : Nat) : Int), 0, 0, (x % 4096 : Nat), 12⟩ := by
  rw [txt_20, hit_nat x 20 4095 45056 hx (by decide +kernel) (by decide +kernel) (by decide +kernel) (by decide), show 18446744073709551615 - 4095 = 18446744073709547520 from rfl, landx_20 x hx]
  unfold dec0
  repeat (first | rw [dr48] | rw [dr49] | rw [dr110] | rw [dr109] | rw [dr105])
  rw [drNil, DecSt.mk.injEq]
  refine ⟨?_, ?_, ?_, ?_, ?_⟩
  · rw [Bool.eq_iff_iff, Nat.beq_eq]
    simp only [Bool.and_eq_true, beq_iff_eq, true_and, Nat.reduceAdd, Nat.reduceSub, Int.reducePow]
    constructor
    · rintro ⟨⟨⟨h15, h14⟩, h13⟩, h12⟩
      have n3 := (nib3 x 1 0 1 1 (by simp) (by simp) (by simp) (by simp)).1 ⟨h15, h14, h13, h12⟩
      clear h15 h14 h13 h12
      omega
    · intro h
      obtain ⟨h15, h14, h13, h12⟩ := (nib3 x 1 0 1 1 (by simp) (by simp) (by simp) (by simp)).2 (by omega)
      exact ⟨⟨⟨h15, h14⟩, h13⟩, h12⟩
  all_goals (simp; try omega)

theorem txt_21 : txtBits ((21 : Nat) : Int) = [48, 49, 48, 48, 110, 110, 110, 110, 48, 48, 49, 48, 49, 48, 49, 49] := by decide +kernel
theorem landx_21 (x : Nat) (hx : x < 65536) : Nat.land x 18446744073709547775 = x % 16 + 16 * (x / 16 % 16) + 0 + 4096 * (x / 4096 % 16) := by
  rw [land16 x, land16 (x / 16), land16 (x / 16 / 16), land16 (x / 16 / 16 / 16), show x / 16 / 16 / 16 / 16 = 0 by omega, zero_land]
  simp only [Nat.reduceMod, Nat.reduceDiv, land_15, land_0]
  omega
theorem dr_21 (x : Nat) (hx : x < 65536) : decRun (x : Int) (txtBits ((21 : Nat) : Int)) 0 dec0 = ⟨decHit (x : Int) ((21 : Nat) : Int), (x / 256 % 16 : Nat), 0, 0, 0⟩ := by
  rw [txt_21, hit_nat x 21 3840 16427 hx (by decide +kernel) (by decide +kernel) (by decide +kernel) (by decide), show 18446744073709551615 - 3840 = 18446744073709547775 from rfl, landx_21 x hx]
  unfold dec0
  repeat (first | rw [dr48] | rw [dr49] | rw [dr110] | rw [dr109] | rw [dr105])
  rw [drNil, DecSt.mk.injEq]
  refine ⟨?_, ?_, ?_, ?_, ?_⟩
  · rw [Bool.eq_iff_iff, Nat.beq_eq]
    simp only [Bool.and_eq_true, beq_iff_eq, true_and, Nat.reduceAdd, Nat.reduceSub, Int.reducePow]
    constructor
    · rintro ⟨⟨⟨⟨⟨⟨⟨⟨⟨⟨⟨h15, h14⟩, h13⟩, h12⟩, h7⟩, h6⟩, h5⟩, h4⟩, h3⟩, h2⟩, h1⟩, h0⟩
      have n3 := (nib3 x 0 1 0 0 (by simp) (by simp) (by simp) (by simp)).1 ⟨h15, h14, h13, h12⟩
      have n1 := (nib1 x 0 0 1 0 (by simp) (by simp) (by simp) (by simp)).1 ⟨h7, h6, h5, h4⟩
      have n0 := (nib0 x 1 0 1 1 (by simp) (by simp) (by simp) (by simp)).1 ⟨h3, h2, h1, h0⟩
      clear h15 h14 h13 h12 h7 h6 h5 h4 h3 h2 h1 h0
      omega
    · intro h
      obtain ⟨h15, h14, h13, h12⟩ := (nib3 x 0 1 0 0 (by simp) (by simp) (by simp) (by simp)).2 (by omega)
      obtain ⟨h7, h6, h5, h4⟩ := (nib1 x 0 0 1 0 (by simp) (by simp) (by simp) (by simp)).2 (by omega)
      obtain ⟨h3, h2, h1, h0⟩ := (nib0 x 1 0 1 1 (by simp) (by simp) (by simp) (by simp)).2 (by omega)
      exact ⟨⟨⟨⟨⟨⟨⟨⟨⟨⟨⟨h15, h14⟩, h13⟩, h12⟩, h7⟩, h6⟩, h5⟩, h4⟩, h3⟩, h2⟩, h1⟩, h0⟩
  all_goals (simp; try omega)

theorem txt_22 : txtBits ((22 : Nat) : Int) = [48, 49, 48, 48, 110, 110, 110, 110, 48, 48, 48, 48, 49, 48, 49, 49] := by decide +kernel
theorem landx_22 (x : Nat) (hx : x < 65536) : Nat.land x 18446744073709547775 = x % 16 + 16 * (x / 16 % 16) + 0 + 4096 * (x / 4096 % 16) := by
  rw [land16 x, land16 (x / 16), land16 (x / 16 / 16), land16 (x / 16 / 16 / 16), show x / 16 / 16 / 16 / 16 = 0 by omega, zero_land]
  simp only [Nat.reduceMod, Nat.reduceDiv, land_15, land_0]
  omega
theorem dr_22 (x : Nat) (hx : x < 65536) : decRun (x : Int) (txtBits ((22 : Nat) : Int)) 0 dec0 = ⟨decHit (x : Int) ((22 : Nat) : Int), (x / 256 % 16 : Nat), 0, 0, 0⟩ := by
  rw [txt_22, hit_nat x 22 3840 16395 hx (by decide +kernel) (by decide +kernel) (by decide +kernel) (by decide), show 18446744073709551615 - 3840 = 18446744073709547775 from rfl, landx_22 x hx]
  unfold dec0
  repeat (first | rw [dr48] | rw [dr49] | rw [dr110] | rw [dr109] | rw [dr105])
  rw [drNil, DecSt.mk.injEq]
  refine ⟨?_, ?_, ?_, ?_, ?_⟩
  · rw [Bool.eq_iff_iff, Nat.beq_eq]
    simp only [Bool.and_eq_true, beq_iff_eq, true_and, Nat.reduceAdd, Nat.reduceSub, Int.reducePow]
    constructor
    · rintro ⟨⟨⟨⟨⟨⟨⟨⟨⟨⟨⟨h15, h14⟩, h13⟩, h12⟩, h7⟩, h6⟩, h5⟩, h4⟩, h3⟩, h2⟩, h1⟩, h0⟩
      have n3 := (nib3 x 0 1 0 0 (by simp) (by simp) (by simp) (by simp)).1 ⟨h15, h14, h13, h12⟩
      have n1 := (nib1 x 0 0 0 0 (by simp) (by simp) (by simp) (by simp)).1 ⟨h7, h6, h5, h4⟩
      have n0 := (nib0 x 1 0 1 1 (by simp) (by simp) (by simp) (by simp)).1 ⟨h3, h2, h1, h0⟩
      clear h15 h14 h13 h12 h7 h6 h5 h4 h3 h2 h1 h0
      omega
    · intro h
      obtain ⟨h15, h14, h13, h12⟩ := (nib3 x 0 1 0 0 (by simp) (by simp) (by simp) (by simp)).2 (by omega)
      obtain ⟨h7, h6, h5, h4⟩ := (nib1 x 0 0 0 0 (by simp) (by simp) (by simp) (by simp)).2 (by omega)
      obtain ⟨h3, h2, h1, h0⟩ := (nib0 x 1 0 1 1 (by simp) (by simp) (by simp) (by simp)).2 (by omega)
      exact ⟨⟨⟨⟨⟨⟨⟨⟨⟨⟨⟨h15, h14⟩, h13⟩, h12⟩, h7⟩, h6⟩, h5⟩, h4⟩, h3⟩, h2⟩, h1⟩, h0⟩
  all_goals (simp; try omega)

theorem txt_23 : txtBits ((23 : Nat) : Int) = [49, 48, 48, 49, 110, 110, 110, 110, 105, 105, 105, 105, 105, 105, 105, 105] := by decide +kernel
theorem landx_23 (x : Nat) (hx : x < 65536) : Nat.land x 18446744073709547520 = 0 + 0 + 0 + 4096 * (x / 4096 % 16) := by
  rw [land16 x, land16 (x / 16), land16 (x / 16 / 16), land16 (x / 16 / 16 / 16), show x / 16 / 16 / 16 / 16 = 0 by omega, zero_land]
  simp only [Nat.reduceMod, Nat.reduceDiv, land_15, land_0]
  omega
theorem dr_23 (x : Nat) (hx : x < 65536) : decRun (x : Int) (txtBits ((23 : Nat) : Int)) 0 dec0 = ⟨decHit (x : Int) ((23 : Nat) : Int), (x / 256 % 16 : Nat), 0, (x % 256 : Nat), 8⟩ := by
  rw [txt_23, hit_nat x 23 4095 36864 hx (by decide +kernel) (by decide +kernel) (by decide +kernel) (by decide), show 18446744073709551615 - 4095 = 18446744073709547520 from rfl, landx_23 x hx]
  unfold dec0
  repeat (first | rw [dr48] | rw [dr49] | rw [dr110] | rw [dr109] | rw [dr105])
  rw [drNil, DecSt.mk.injEq]
  refine ⟨?_, ?_, ?_, ?_, ?_⟩
  · rw [Bool.eq_iff_iff, Nat.beq_eq]
    simp only [Bool.and_eq_true, beq_iff_eq, true_and, Nat.reduceAdd, Nat.reduceSub, Int.reducePow]
    constructor
    · rintro ⟨⟨⟨h15, h14⟩, h13⟩, h12⟩
      have n3 := (nib3 x 1 0 0 1 (by simp) (by simp) (by simp) (by simp)).1 ⟨h15, h14, h13, h12⟩
      clear h15 h14 h13 h12
      omega
    · intro h
      obtain ⟨h15, h14, h13, h12⟩ := (nib3 x 1 0 0 1 (by simp) (by simp) (by simp) (by simp)).2 (by omega)
      exact ⟨⟨⟨h15, h14⟩, h13⟩, h12⟩
  all_goals (simp; try omega)

theorem txt_24 : txtBits ((24 : Nat) : Int) = [49, 49, 48, 49, 110, 110, 110, 110, 105, 105, 105, 105, 105, 105, 105, 105] := by decide +kernel
theorem landx_24 (x : Nat) (hx : x < 65536) : Nat.land x 18446744073709547520 = 0 + 0 + 0 + 4096 * (x / 4096 % 16) := by
  rw [land16 x, land16 (x / 16), land16 (x / 16 / 16), land16 (x / 16 / 16 / 16), show x / 16 / 16 / 16 / 16 = 0 by omega, zero_land]
  simp only [Nat.reduceMod, Nat.reduceDiv, land_15, land_0]
  omega
theorem dr_24 (x : Nat) (hx : x < 65536) : decRun (x : Int) (txtBits ((24 : Nat) : Int)) 0 dec0 = ⟨decHit (x : Int) ((24 : Nat) : Int), (x / 256 % 16 : Nat), 0, (x % 256 : Nat), 8⟩ := by
  rw [txt_24, hit_nat x 24 4095 53248 hx (by decide +kernel) (by decide +kernel) (by decide +kernel) (by decide), show 18446744073709551615 - 4095 = 18446744073709547520 from rfl, landx_24 x hx]
  unfold dec0
  repeat (first | rw [dr48] | rw [dr49] | rw [dr110] | rw [dr109] | rw [dr105])
  rw [drNil, DecSt.mk.injEq]
  refine ⟨?_, ?_, ?_, ?_, ?_⟩
  · rw [Bool.eq_iff_iff, Nat.beq_eq]
    simp only [Bool.and_eq_true, beq_iff_eq, true_and, Nat.reduceAdd, Nat.reduceSub, Int.reducePow]
    constructor
    · rintro ⟨⟨⟨h15, h14⟩, h13⟩, h12⟩
      have n3 := (nib3 x 1 1 0 1 (by simp) (by simp) (by simp) (by simp)).1 ⟨h15, h14, h13, h12⟩
      clear h15 h14 h13 h12
      omega
    · intro h
      obtain ⟨h15, h14, h13, h12⟩ := (nib3 x 1 1 0 1 (by simp) (by simp) (by simp) (by simp)).2 (by omega)
      exact ⟨⟨⟨h15, h14⟩, h13⟩, h12⟩
  all_goals (simp; try omega)

theorem txt_25 : txtBits ((25 : Nat) : Int) = [48, 48, 49, 48, 110, 110, 110, 110, 109, 109, 109, 109, 48, 48, 49, 48] := by decide +kernel
theorem landx_25 (x : Nat) (hx : x < 65536) : Nat.land x 18446744073709547535 = x % 16 + 0 + 0 + 4096 * (x / 4096 % 16) := by
  rw [land16 x, land16 (x / 16), land16 (x / 16 / 16), land16 (x / 16 / 16 / 16), show x / 16 / 16 / 16 / 16 = 0 by omega, zero_land]
  simp only [Nat.reduceMod, Nat.reduceDiv, land_15, land_0]
  omega
theorem dr_25 (x : Nat) (hx : x < 65536) : decRun (x : Int) (txtBits ((25 : Nat) : Int)) 0 dec0 = ⟨decHit (x : Int) ((25 : Nat) : Int), (x / 256 % 16 : Nat), (x / 16 % 16 : Nat), 0, 0⟩ := by
  rw [txt_25, hit_nat x 25 4080 8194 hx (by decide +kernel) (by decide +kernel) (by decide +kernel) (by decide), show 18446744073709551615 - 4080 = 18446744073709547535 from rfl, landx_25 x hx]
  unfold dec0
  repeat (first | rw [dr48] | rw [dr49] | rw [dr110] | rw [dr109] | rw [dr105])
  rw [drNil, DecSt.mk.injEq]
  refine ⟨?_, ?_, ?_, ?_, ?_⟩
  · rw [Bool.eq_iff_iff, Nat.beq_eq]
    simp only [Bool.and_eq_true, beq_iff_eq, true_and, Nat.reduceAdd, Nat.reduceSub, Int.reducePow]
    constructor
    · rintro ⟨⟨⟨⟨⟨⟨⟨h15, h14⟩, h13⟩, h12⟩, h3⟩, h2⟩, h1⟩, h0⟩
      have n3 := (nib3 x 0 0 1 0 (by simp) (by simp) (by simp) (by simp)).1 ⟨h15, h14, h13, h12⟩
      have n0 := (nib0 x 0 0 1 0 (by simp) (by simp) (by simp) (by simp)).1 ⟨h3, h2, h1, h0⟩
      clear h15 h14 h13 h12 h3 h2 h1 h0
      omega
    · intro h
      obtain ⟨h15, h14, h13, h12⟩ := (nib3 x 0 0 1 0 (by simp) (by simp) (by simp) (by simp)).2 (by omega)
      obtain ⟨h3, h2, h1, h0⟩ := (nib0 x 0 0 1 0 (by simp) (by simp) (by simp) (by simp)).2 (by omega)
      exact ⟨⟨⟨⟨⟨⟨⟨h15, h14⟩, h13⟩, h12⟩, h3⟩, h2⟩, h1⟩, h0⟩
  all_goals (simp; try omega)

theorem txt_26 : txtBits ((26 : Nat) : Int) = [48, 49, 49, 48, 110, 110, 110, 110, 109, 109, 109, 109, 48, 48, 49, 48] := by decide +kernel
theorem landx_26 (x : Nat) (hx : x < 65536) : Nat.land x 18446744073709547535 = x % 16 + 0 + 0 + 4096 * (x / 4096 % 16) := by
  rw [land16 x, land16 (x / 16), land16 (x / 16 / 16), land16 (x / 16 / 16 / 16), show x / 16 / 16 / 16 / 16 = 0 by omega, zero_land]
  simp only [Nat.reduceMod, Nat.reduceDiv, land_15, land_0]
  omega
theorem dr_26 (x : Nat) (hx : x < 65536) : decRun (x : Int) (txtBits ((26 : Nat) : Int)) 0 dec0 = ⟨decHit (x : Int) ((26 : Nat) : Int), (x / 256 % 16 : Nat), (x / 16 % 16 : Nat), 0, 0⟩ := by
  rw [txt_26, hit_nat x 26 4080 24578 hx (by decide +kernel) (by decide +kernel) (by decide +kernel) (by decide), show 18446744073709551615 - 4080 = 18446744073709547535 from rfl, landx_26 x hx]
  unfold dec0
  repeat (first | rw [dr48] | rw [dr49] | rw [dr110] | rw [dr109] | rw [dr105])
  rw [drNil, DecSt.mk.injEq]
  refine ⟨?_, ?_, ?_, ?_, ?_⟩
  · rw [Bool.eq_iff_iff, Nat.beq_eq]
    simp only [Bool.and_eq_true, beq_iff_eq, true_and, Nat.reduceAdd, Nat.reduceSub, Int.reducePow]
    constructor
    · rintro ⟨⟨⟨⟨⟨⟨⟨h15, h14⟩, h13⟩, h12⟩, h3⟩, h2⟩, h1⟩, h0⟩
      have n3 := (nib3 x 0 1 1 0 (by simp) (by simp) (by simp) (by simp)).1 ⟨h15, h14, h13, h12⟩
      have n0 := (nib0 x 0 0 1 0 (by simp) (by simp) (by simp) (by simp)).1 ⟨h3, h2, h1, h0⟩
      clear h15 h14 h13 h12 h3 h2 h1 h0
      omega
    · intro h
      obtain ⟨h15, h14, h13, h12⟩ := (nib3 x 0 1 1 0 (by simp) (by simp) (by simp) (by simp)).2 (by omega)
      obtain ⟨h3, h2, h1, h0⟩ := (nib0 x 0 0 1 0 (by simp) (by simp) (by simp) (by simp)).2 (by omega)
      exact ⟨⟨⟨⟨⟨⟨⟨h15, h14⟩, h13⟩, h12⟩, h3⟩, h2⟩, h1⟩, h0⟩
  all_goals (simp; try omega)

theorem txt_27 : txtBits ((27 : Nat) : Int) = [49, 49, 48, 48, 48, 48, 49, 49, 105, 105, 105, 105, 105, 105, 105, 105] := by decide +kernel
theorem landx_27 (x : Nat) (hx : x < 65536) : Nat.land x 18446744073709551360 = 0 + 0 + 256 * (x / 256 % 16) + 4096 * (x / 4096 % 16) := by
  rw [land16 x, land16 (x / 16), land16 (x / 16 / 16), land16 (x / 16 / 16 / 16), show x / 16 / 16 / 16 / 16 = 0 by omega, zero_land]
  simp only [Nat.reduceMod, Nat.reduceDiv, land_15, land_0]
  omega
theorem dr_27 (x : Nat) (hx : x < 65536) : decRun (x : Int) (txtBits ((27 : Nat) : Int)) 0 dec0 = ⟨decHit (x : Int) ((27 : Nat) : Int), 0, 0, (x % 256 : Nat), 8⟩ := by
  rw [txt_27, hit_nat x 27 255 49920 hx (by decide +kernel) (by decide +kernel) (by decide +kernel) (by decide), show 18446744073709551615 - 255 = 18446744073709551360 from rfl, landx_27 x hx]
  unfold dec0
  repeat (first | rw [dr48] | rw [dr49] | rw [dr110] | rw [dr109] | rw [dr105])
  rw [drNil, DecSt.mk.injEq]
  refine ⟨?_, ?_, ?_, ?_, ?_⟩
  · rw [Bool.eq_iff_iff, Nat.beq_eq]
    simp only [Bool.and_eq_true, beq_iff_eq, true_and, Nat.reduceAdd, Nat.reduceSub, Int.reducePow]
    constructor
    · rintro ⟨⟨⟨⟨⟨⟨⟨h15, h14⟩, h13⟩, h12⟩, h11⟩, h10⟩, h9⟩, h8⟩
      have n3 := (nib3 x 1 1 0 0 (by simp) (by simp) (by simp) (by simp)).1 ⟨h15, h14, h13, h12⟩
      have n2 := (nib2 x 0 0 1 1 (by simp) (by simp) (by simp) (by simp)).1 ⟨h11, h10, h9, h8⟩
      clear h15 h14 h13 h12 h11 h10 h9 h8
      omega
    · intro h
      obtain ⟨h15, h14, h13, h12⟩ := (nib3 x 1 1 0 0 (by simp) (by simp) (by simp) (by simp)).2 (by omega)
      obtain ⟨h11, h10, h9, h8⟩ := (nib2 x 0 0 1 1 (by simp) (by simp) (by simp) (by simp)).2 (by omega)
      exact ⟨⟨⟨⟨⟨⟨⟨h15, h14⟩, h13⟩, h12⟩, h11⟩, h10⟩, h9⟩, h8⟩
  all_goals (simp; try omega)

theorem landW (y d : Nat) (hd : d = 0 ∨ d = 4) : ((Nat.land y (2 ^ d - 1) : Nat) : Int) = if d = 0 then 0 else ((y % 16 : Nat) : Int) := by
  have : Nat.land y (2 ^ d - 1) = y % 2 ^ d := Nat.and_two_pow_sub_one_eq_mod _ _
  rw [this]
  rcases hd with rfl | rfl
  · simp
  · simp

theorem dr_all (k : Nat) (h1 : 1 ≤ k) (h2 : k < 28) (x : Nat) (hx : x < 65536) : decRun (x : Int) (txtBits (k : Int)) 0 dec0 =
    ⟨decHit (x : Int) (k : Int), ((Nat.land (x / 256) (2 ^ wideN k - 1) : Nat) : Int), ((Nat.land (x / 16) (2 ^ wideM k - 1) : Nat) : Int), ((x % 2 ^ wideI k : Nat) : Int), ((wideI k : Nat) : Int)⟩ := by
  obtain ⟨_, _, _, w1, w2, _, _, _, _, _⟩ := row_facts k h2
  rw [landW _ _ w1, landW _ _ w2]
  clear w1 w2
  have h : k = 1 ∨ k = 2 ∨ k = 3 ∨ k = 4 ∨ k = 5 ∨ k = 6 ∨ k = 7 ∨ k = 8 ∨ k = 9 ∨ k = 10 ∨ k = 11 ∨ k = 12 ∨ k = 13 ∨ k = 14 ∨ k = 15 ∨ k = 16 ∨ k = 17 ∨ k = 18 ∨ k = 19 ∨ k = 20 ∨ k = 21 ∨ k = 22 ∨ k = 23 ∨ k = 24 ∨ k = 25 ∨ k = 26 ∨ k = 27 := by omega
  rcases h with rfl | rfl | rfl | rfl | rfl | rfl | rfl | rfl | rfl | rfl | rfl | rfl | rfl | rfl | rfl | rfl | rfl | rfl | rfl | rfl | rfl | rfl | rfl | rfl | rfl | rfl | rfl
  · rw [dr_1 x hx]; simp [wideN, wideM, wideI]
  · rw [dr_2 x hx]; simp [wideN, wideM, wideI]
  · rw [dr_3 x hx]; simp [wideN, wideM, wideI]
  · rw [dr_4 x hx]; simp [wideN, wideM, wideI]
  · rw [dr_5 x hx]; simp [wideN, wideM, wideI]
  · rw [dr_6 x hx]; simp [wideN, wideM, wideI]
  · rw [dr_7 x hx]; simp [wideN, wideM, wideI]
  · rw [dr_8 x hx]; simp [wideN, wideM, wideI]
  · rw [dr_9 x hx]; simp [wideN, wideM, wideI]
  · rw [dr_10 x hx]; simp [wideN, wideM, wideI]
  · rw [dr_11 x hx]; simp [wideN, wideM, wideI]
  · rw [dr_12 x hx]; simp [wideN, wideM, wideI]
  · rw [dr_13 x hx]; simp [wideN, wideM, wideI]
  · rw [dr_14 x hx]; simp [wideN, wideM, wideI]
  · rw [dr_15 x hx]; simp [wideN, wideM, wideI]
  · rw [dr_16 x hx]; simp [wideN, wideM, wideI]
  · rw [dr_17 x hx]; simp [wideN, wideM, wideI]
  · rw [dr_18 x hx]; simp [wideN, wideM, wideI]
  · rw [dr_19 x hx]; simp [wideN, wideM, wideI]
  · rw [dr_20 x hx]; simp [wideN, wideM, wideI]
  · rw [dr_21 x hx]; simp [wideN, wideM, wideI]
  · rw [dr_22 x hx]; simp [wideN, wideM, wideI]
  · rw [dr_23 x hx]; simp [wideN, wideM, wideI]
  · rw [dr_24 x hx]; simp [wideN, wideM, wideI]
  · rw [dr_25 x hx]; simp [wideN, wideM, wideI]
  · rw [dr_26 x hx]; simp [wideN, wideM, wideI]
  · rw [dr_27 x hx]; simp [wideN, wideM, wideI]

end Go.Proofs.YtabepbaldadmgaaDoor.Isa

namespace Go.Proofs.YtabepbaldadmgaaDoor.Isa
open Go.RowKit

theorem rDec_out (x : Int) (w : World) (hx : x < 0 ∨ 65535 < x) :
    Calls Tryd.prog 18 #[.int .i64 x] w fun e w' => e = .returned (.tuple #[.agg #[.int .i64 0, .int .i64 0, .int .i64 0, .int .i64 0], .int .i64 3]) ∧ Below w.heap.size w w' := by
  by_cases h : x < 0
  · go_enter Tryd.func18, Tryd.ntmps18
    go_wp2
    exact bodyPost_ret (v := .tuple #[.agg #[.int .i64 0, .int .i64 0, .int .i64 0, .int .i64 0], .int .i64 3]) (by simp [results, Tryd.results18, go_sem]) rfl ⟨rfl, (Below.refl _ _).alloc (Nat.le_refl _) _⟩
  · have h' : 65535 < x := by omega
    go_enter Tryd.func18, Tryd.ntmps18
    go_wp2
    exact bodyPost_ret (v := .tuple #[.agg #[.int .i64 0, .int .i64 0, .int .i64 0, .int .i64 0], .int .i64 3]) (by simp [results, Tryd.results18, go_sem]) rfl ⟨rfl, (Below.refl _ _).alloc (Nat.le_refl _) _⟩

/-- The instruction that is being read lies in box B, above W. -/
structure InnerAt (B : Nat) (W : World) (k n m i : Int) (x : World) : Prop where
  bel : Below B W x
  lt : B < x.heap.size
  c0 : x.cell? ⟨B, 0, none⟩ = some (.int .i64 k)
  c1 : x.cell? ⟨B, 1, none⟩ = some (.int .i64 n)
  c2 : x.cell? ⟨B, 2, none⟩ = some (.int .i64 m)
  c3 : x.cell? ⟨B, 3, none⟩ = some (.int .i64 i)
  fz : ∀ j, x.frozen? ⟨B, j, none⟩ = false

theorem InnerAt.start0 (W : World) (k : Int) : InnerAt W.heap.size W k 0 0 0 (W.alloc (.cells #[.int .i64 k, .int .i64 0, .int .i64 0, .int .i64 0] 45)) where
  bel := (Below.refl _ _).alloc (Nat.le_refl _) _
  lt := by simp
  c0 := by simp
  c1 := by simp
  c2 := by simp
  c3 := by simp
  fz j := by unfold World.frozen?; rw [heap_alloc_new]; simp

theorem InnerAt.start (W : World) (B : Nat) (hB : B = W.heap.size) (k : Int) : InnerAt B W k 0 0 0 (W.alloc (.cells #[.int .i64 k, .int .i64 0, .int .i64 0, .int .i64 0] 45)) := by
  subst hB
  exact InnerAt.start0 W k

theorem addr_ne {B i j : Nat} (h : i ≠ j) : (⟨B, i, none⟩ : Addr) ≠ ⟨B, j, none⟩ := by
  intro e; cases e; exact h rfl

theorem InnerAt.set1 {B : Nat} {W x : World} {k n m i : Int} (h : InnerAt B W k n m i x) (v : Int) : InnerAt B W k v m i (x.setCell ⟨B, 1, none⟩ (.int .i64 v)) where
  bel := h.bel.setCell (Nat.le_refl _) _
  lt := by simpa using h.lt
  c0 := by rw [World.cell?_setCell_other _ _ _ _ (addr_ne (by decide))]; exact h.c0
  c1 := World.cell?_setCell_same _ _ _ h.c1
  c2 := by rw [World.cell?_setCell_other _ _ _ _ (addr_ne (by decide))]; exact h.c2
  c3 := by rw [World.cell?_setCell_other _ _ _ _ (addr_ne (by decide))]; exact h.c3
  fz j := by rw [World.frozen?_setCell]; exact h.fz j
theorem InnerAt.set2 {B : Nat} {W x : World} {k n m i : Int} (h : InnerAt B W k n m i x) (v : Int) : InnerAt B W k n v i (x.setCell ⟨B, 2, none⟩ (.int .i64 v)) where
  bel := h.bel.setCell (Nat.le_refl _) _
  lt := by simpa using h.lt
  c0 := by rw [World.cell?_setCell_other _ _ _ _ (addr_ne (by decide))]; exact h.c0
  c1 := by rw [World.cell?_setCell_other _ _ _ _ (addr_ne (by decide))]; exact h.c1
  c2 := World.cell?_setCell_same _ _ _ h.c2
  c3 := by rw [World.cell?_setCell_other _ _ _ _ (addr_ne (by decide))]; exact h.c3
  fz j := by rw [World.frozen?_setCell]; exact h.fz j
theorem InnerAt.set3 {B : Nat} {W x : World} {k n m i : Int} (h : InnerAt B W k n m i x) (v : Int) : InnerAt B W k n m v (x.setCell ⟨B, 3, none⟩ (.int .i64 v)) where
  bel := h.bel.setCell (Nat.le_refl _) _
  lt := by simpa using h.lt
  c0 := by rw [World.cell?_setCell_other _ _ _ _ (addr_ne (by decide))]; exact h.c0
  c1 := by rw [World.cell?_setCell_other _ _ _ _ (addr_ne (by decide))]; exact h.c1
  c2 := by rw [World.cell?_setCell_other _ _ _ _ (addr_ne (by decide))]; exact h.c2
  c3 := World.cell?_setCell_same _ _ _ h.c3
  fz j := by rw [World.frozen?_setCell]; exact h.fz j

/-- What the inner loop's state may be. -/
def StOk (j : Nat) (s : DecSt) : Prop := 0 ≤ s.n ∧ s.n < 2 ^ j ∧ 0 ≤ s.m ∧ s.m < 2 ^ j ∧ 0 ≤ s.i ∧ s.i < 2 ^ j ∧ 0 ≤ s.d ∧ s.d ≤ j

theorem txt_drop (s : ByteArray) (j : Nat) (hj : j < s.size) : s.data.toList.drop j = s[j] :: s.data.toList.drop (j + 1) := by
  rw [List.drop_eq_getElem_cons (by simpa using hj)]
  rfl

/-- What the number's range says of its width. -/
theorem low_facts (k : Nat) (h : k < 28) : (layLow (opShape k) < 0 ∧ (wideI k = 8 ∧ layHigh (opShape k) = 127 ∨ wideI k = 12 ∧ layHigh (opShape k) = 2047)) ∨ (¬ layLow (opShape k) < 0 ∧ layHigh (opShape k) = ((2 ^ wideI k : Nat) : Int) - 1) := by
  have : ∀ j : Fin 28, (layLow (opShape j.val) < 0 ∧ (wideI j.val = 8 ∧ layHigh (opShape j.val) = 127 ∨ wideI j.val = 12 ∧ layHigh (opShape j.val) = 2047)) ∨ (¬ layLow (opShape j.val) < 0 ∧ layHigh (opShape j.val) = ((2 ^ wideI j.val : Nat) : Int) - 1) := by decide +kernel
  exact this ⟨k, h⟩

set_option maxRecDepth 100000 in
set_option maxHeartbeats 4000000 in
theorem rDec_in (x : Nat) (w : World) (hx : x < 65536) :
    Calls Tryd.prog 18 #[.int .i64 (x : Int)] w fun e w' => e = .returned (.tuple #[decV x, .int .i64 (decE x)]) ∧ Below w.heap.size w w' := by
  have hx1 : (x : Int) ≤ 65535 := by omega
  have hd1 : decide ((x : Int) < 0) = false := by simp
  have hd2 : decide (65535 < (x : Int)) = false := by simp; omega
  have HW : Hid (withinB (x : Int) 0 65535 = true) := within_nat hx
  go_enter Tryd.func18, Tryd.ntmps18
  go_wp2_with fail
  go_loopw [4] (fun s4 wr => ∃ k : Nat, 1 ≤ k ∧ k ≤ 28 ∧ s4 = .int .i64 k ∧ Below (w.heap.size + 1) (w.alloc (.cells #[.int .i64 0, .int .i64 0, .int .i64 0, .int .i64 0] 45)) wr ∧ Hid (decFrom x 28 0 = decFrom x (28 - k) k)) (fun s4 _ => 28 - (intOf s4).toNat)
  case atStart => exact ⟨1, Nat.le_refl _, by omega, rfl, Below.refl _ _, dec_no (k := 0) (by omega) rfl (by rw [decHit, show knownB ((0 : Nat) : Int) = false by decide +kernel]; rfl)⟩
  case round =>
    obtain ⟨k, hk1, hk2, rfl, hB, HF⟩ := hrel
    by_cases hlt : k < 28
    · have hk' : (k : Int) ≤ 27 := by omega
      go_wp2_with fail
      refine (rows_let _).mono ?_
      rintro e w1 ⟨g, rfl, hg1, hb1, hg2, hg3⟩
      have hl := run_look_plain w1 g (k : Int) hg1
      have hB1 := hB.trans (hb1.mono (by have := hB.size; simpa using this))
      have hkn : knownB (k : Int) = true := by simp [knownB, withinB]; omega
      have hsz : (refBits (k : Int)).size = 16 := refBits_16 k (by omega) (by omega)
      have ht : refTxt (k : Int) = refBits (k : Int) := by simp [refTxt, hkn]
      have hsh : infoShape (k : Int) = opShape (k : Int) := by simp [infoShape, hkn]
      rw [ht, hsh] at hl
      have HT : Hid (refTxt (k : Int) = refBits (k : Int)) := ht
      have HB1 : Hid (Below (w.heap.size + 1) (w.alloc (.cells #[.int .i64 0, .int .i64 0, .int .i64 0, .int .i64 0] 45)) w1) := hB1
      clear hb1 hB hB1 hg1 hg2 hg3 hkn ht hsh
      go_wp2_with fail
      clear hl
      go_loopw [7, 8, 29] (fun s7 s8 s29 wi => ∃ (j : Nat) (st : DecSt), j ≤ 16 ∧ s29 = .int .i64 j ∧ s7 = .bool st.f ∧ s8 = .int .i64 st.d ∧ StOk j st ∧ InnerAt (w1.heap.size + 1) (w1.alloc (.cells #[.string (infoName k), .int .i64 (opShape k), .string (refBits k)] 65)) k st.n st.m st.i wi ∧ Hid (decRun x ((txtBits k).drop j) j st = decRun x (txtBits k) 0 dec0)) (fun _ _ i _ => 16 - (intOf i).toNat)
      case atStart => exact ⟨0, dec0, Nat.zero_le _, rfl, rfl, rfl, by simp [StOk, dec0], InnerAt.start _ _ (by simp) _, rfl⟩
      case round =>
        obtain ⟨j, ⟨f, n, m, i, d⟩, hj, rfl, rfl, rfl, hst, hin, HD⟩ := hrel
        simp only [StOk] at hst
        obtain ⟨n0, n1, m0, m1, i0, i1, d0, d1⟩ := hst
        by_cases hjl : j < 16
        · have hj' : (j : Int) < 16 := by omega
          have hs5 : wr.cell? ⟨w1.heap.size, 2, none⟩ = some (.string (refBits k)) := by rw [hin.bel.cell (by simp)]; simp
          have hidx := index9 (refBits k) j (j : Int) rfl (by omega)
          have hdr : (txtBits k).drop j = (refBits k)[j] :: (txtBits k).drop (j + 1) := txt_drop _ j (by omega)
          rw [hdr] at HD
          have hsh : (15 - (j : Int)).toNat = 15 - j := by omega
          have hand := and_one ((x : Int) / 2 ^ (15 - j))
          have hb : 0 ≤ (x : Int) / 2 ^ (15 - j) % 2 ∧ (x : Int) / 2 ^ (15 - j) % 2 ≤ 1 := by omega
          obtain ⟨hb0, hb1⟩ := hb
          have hp : (2 : Int) ^ j ≤ 32768 := by
            have := Nat.pow_le_pow_right (n := 2) (by omega) (show j ≤ 15 by omega)
            have h2 : ((2 ^ j : Nat) : Int) ≤ ((2 ^ 15 : Nat) : Int) := by omega
            simpa using h2
          have HQ : Hid ((2 : Int) ^ (j + 1) = 2 * 2 ^ j) := by show _ = _; rw [Int.pow_succ]; omega
          have cc1 := hin.c1
          have cc2 := hin.c2
          have cc3 := hin.c3
          have ff1 := hin.fz 1
          have ff2 := hin.fz 2
          have ff3 := hin.fz 3
          clear hdr
          generalize (refBits k)[j] = c at *
          by_cases c48 : c = 48
          · subst c48
            rw [dr48] at HD
            cases f
            · go_wp2
              exact ⟨⟨j + 1, ⟨false, n, m, i, d⟩, by omega, by go_num, rfl, by go_num, by simp only [StOk]; rw [HQ.out]; omega, hin, HD⟩, by simp [intOf]; omega⟩
            · go_wp2
              exact ⟨⟨j + 1, ⟨(x : Int) / 2 ^ (15 - j) % 2 == 0, n, m, i, d⟩, by omega, by go_num, rfl, by go_num, by simp only [StOk]; rw [HQ.out]; omega, hin, HD⟩, by simp [intOf]; omega⟩
          by_cases c49 : c = 49
          · subst c49
            rw [dr49] at HD
            cases f
            · go_wp2
              exact ⟨⟨j + 1, ⟨false, n, m, i, d⟩, by omega, by go_num, rfl, by go_num, by simp only [StOk]; rw [HQ.out]; omega, hin, HD⟩, by simp [intOf]; omega⟩
            · go_wp2
              exact ⟨⟨j + 1, ⟨(x : Int) / 2 ^ (15 - j) % 2 == 1, n, m, i, d⟩, by omega, by go_num, rfl, by go_num, by simp only [StOk]; rw [HQ.out]; omega, hin, HD⟩, by simp [intOf]; omega⟩
          by_cases c110 : c = 110
          · subst c110
            rw [dr110] at HD
            go_wp2
            exact ⟨⟨j + 1, ⟨f, 2 * n + (x : Int) / 2 ^ (15 - j) % 2, m, i, d⟩, by omega, by go_num, rfl, by go_num, by simp only [StOk]; rw [HQ.out]; omega, hin.set1 _, HD⟩, by simp [intOf]; omega⟩
          by_cases c109 : c = 109
          · subst c109
            rw [dr109] at HD
            go_wp2
            exact ⟨⟨j + 1, ⟨f, n, 2 * m + (x : Int) / 2 ^ (15 - j) % 2, i, d⟩, by omega, by go_num, rfl, by go_num, by simp only [StOk]; rw [HQ.out]; omega, hin.set2 _, HD⟩, by simp [intOf]; omega⟩
          have t1 : ((c.toNat : Int) == 48) = false := beq_eq_false_iff_ne.2 (fun e => c48 (UInt8.toNat_inj.1 (by simpa using Int.ofNat.inj e)))
          have t2 : ((c.toNat : Int) == 49) = false := beq_eq_false_iff_ne.2 (fun e => c49 (UInt8.toNat_inj.1 (by simpa using Int.ofNat.inj e)))
          have t3 : ((c.toNat : Int) == 110) = false := beq_eq_false_iff_ne.2 (fun e => c110 (UInt8.toNat_inj.1 (by simpa using Int.ofNat.inj e)))
          have t4 : ((c.toNat : Int) == 109) = false := beq_eq_false_iff_ne.2 (fun e => c109 (UInt8.toNat_inj.1 (by simpa using Int.ofNat.inj e)))
          have HD2 : Hid (decRun x ((txtBits k).drop (j + 1)) (j + 1) ⟨f, n, m, 2 * i + (x : Int) / 2 ^ (15 - j) % 2, d + 1⟩ = decRun x (txtBits k) 0 dec0) := by
            have := HD.out
            rwa [decRun, if_neg c48, if_neg c49, if_neg c110, if_neg c109] at this
          clear HD c48 c49 c110 c109
          go_wp2
          exact ⟨⟨j + 1, ⟨f, n, m, 2 * i + (x : Int) / 2 ^ (15 - j) % 2, d + 1⟩, by omega, by go_num, rfl, by go_num, by simp only [StOk]; rw [HQ.out]; omega, hin.set3 _, HD2⟩, by simp [intOf]; omega⟩
        · have hj16 : j = 16 := by omega
          subst hj16
          have hst : (⟨f, n, m, i, d⟩ : DecSt) = ⟨decHit (x : Int) (k : Int), ((Nat.land (x / 256) (2 ^ wideN k - 1) : Nat) : Int), ((Nat.land (x / 16) (2 ^ wideM k - 1) : Nat) : Int), ((x % 2 ^ wideI k : Nat) : Int), ((wideI k : Nat) : Int)⟩ := by
            rw [← dr_all k hk1 hlt x hx, ← HD.out, List.drop_of_length_le (by show (refBits k).size ≤ 16; omega)]
            rfl
          rw [DecSt.mk.injEq] at hst
          obtain ⟨e1, e2, e3, e4, e5⟩ := hst
          have hbig : w.heap.size + 1 ≤ w1.heap.size := by have := HB1.out.size; simpa using this
          have HB2 : Hid (Below (w.heap.size + 1) (w.alloc (.cells #[.int .i64 0, .int .i64 0, .int .i64 0, .int .i64 0] 45)) wr) := (HB1.out.alloc hbig _).trans (hin.bel.mono (by omega))
          clear n0 n1 m0 m1 i1 d1 HD
          cases hh : decHit (x : Int) (k : Int)
          · rw [hh] at e1
            subst e1
            have HN : Hid (decHit (x : Int) (k : Int) = false) := hh
            clear hh e2 e3 e4 e5
            go_wp2
            exact ⟨⟨k + 1, by omega, by omega, by go_num, HB2.out, dec_no hlt HF.out HN.out⟩, by simp [intOf]; omega⟩
          · rw [hh] at e1
            subst e1
            have HV : Hid (decV x = .agg #[.int .i64 k, .int .i64 n, .int .i64 m, .int .i64 (if layHigh (opShape k) < i then i - ((2 ^ wideI k : Nat) : Int) else i)] ∧ decE x = 0) := by
              obtain ⟨v1, v2⟩ := decV_hit hlt HW.out HF.out hh
              refine ⟨?_, v2⟩
              rw [v1, rdV_nat k x hlt hx, e2, e3, e4]
            have hi2 : i < ((2 ^ wideI k : Nat) : Int) := by rw [e4]; have := Nat.mod_lt x (Nat.two_pow_pos (wideI k)); omega
            have hs51 : wr.cell? ⟨w1.heap.size, 1, none⟩ = some (.int .i64 (opShape k)) := by rw [hin.bel.cell (by simp)]; simp
            have cc0 := hin.c0
            have cc1 := hin.c1
            have cc2 := hin.c2
            have cc3 := hin.c3
            have ff3 := hin.fz 3
            obtain ⟨hc, hf⟩ := bcellB HB2.out
            have hgz := hin.lt
            have HI := hin
            clear hh e2 e3 e4 hin
            have lf := low_facts k hlt
            rcases lf with ⟨hlow, lf⟩ | ⟨hlow, lf⟩
            · rcases lf with ⟨hw, hhi⟩ | ⟨hw, hhi⟩
              · have hd' : d = 8 := by rw [hw] at e5; omega
                subst hd'
                have hfull : ((2 ^ wideI k : Nat) : Int) = 256 := by rw [hw]; rfl
                by_cases hge : 128 ≤ i
                · have HX : Hid ((if layHigh (opShape k) < i then i - ((2 ^ wideI k : Nat) : Int) else i) = i - 256) := by show _ = _; rw [if_pos (by omega), hfull]
                  have hi3 : i < 256 := by omega
                  clear hi2 e5 hw hhi hfull
                  go_wp2_with (go_at_call 31; refine (rRange_any _ _).mono ?_; rintro e w' ⟨rfl, rfl⟩)
                  go_quiet (fail)
                  go_wp2
                  go_region
                  go_wp2
                  refine bodyPost_ret (v := .tuple #[.agg #[.int .i64 k, .int .i64 n, .int .i64 m, .int .i64 (i - 256)], .int .i64 0]) (by simp [results, Tryd.results18, go_sem, hc]) rfl ⟨by rw [HV.out.1, HV.out.2, HX.out], ?_⟩
                  have HZ := ((Below.refl w.heap.size w).alloc (Nat.le_refl _) (.cells #[.int .i64 0, .int .i64 0, .int .i64 0, .int .i64 0] 45)).trans (HB2.out.mono (by omega))
                  exact (((((below_draws HZ _).setCell (by show w.heap.size ≤ w1.heap.size + 1; omega) _).setCell (Nat.le_refl _) _).setCell (Nat.le_refl _) _).setCell (Nat.le_refl _) _).setCell (Nat.le_refl _) _
                · have hge' : decide (128 ≤ i) = false := by simpa using hge
                  have HX : Hid ((if layHigh (opShape k) < i then i - ((2 ^ wideI k : Nat) : Int) else i) = i) := by show _ = _; rw [if_neg (by omega)]
                  clear hi2 e5 hw hhi hfull
                  go_wp2_with (go_at_call 31; refine (rRange_any _ _).mono ?_; rintro e w' ⟨rfl, rfl⟩)
                  go_quiet (fail)
                  go_wp2
                  refine bodyPost_ret (v := .tuple #[.agg #[.int .i64 k, .int .i64 n, .int .i64 m, .int .i64 i], .int .i64 0]) (by simp [results, Tryd.results18, go_sem, hc]) rfl ⟨by rw [HV.out.1, HV.out.2, HX.out], ?_⟩
                  exact ((((below_draws (((Below.refl w.heap.size w).alloc (Nat.le_refl _) _).trans (HB2.out.mono (by omega))) _).setCell (by simp) _).setCell (by simp) _).setCell (by simp) _).setCell (by simp) _
              · have hd' : d = 12 := by rw [hw] at e5; omega
                subst hd'
                have hfull : ((2 ^ wideI k : Nat) : Int) = 4096 := by rw [hw]; rfl
                by_cases hge : 2048 ≤ i
                · have HX : Hid ((if layHigh (opShape k) < i then i - ((2 ^ wideI k : Nat) : Int) else i) = i - 4096) := by show _ = _; rw [if_pos (by omega), hfull]
                  have hi3 : i < 4096 := by omega
                  clear hi2 e5 hw hhi hfull
                  go_wp2_with (go_at_call 31; refine (rRange_any _ _).mono ?_; rintro e w' ⟨rfl, rfl⟩)
                  go_quiet (fail)
                  go_wp2
                  go_region
                  go_wp2
                  refine bodyPost_ret (v := .tuple #[.agg #[.int .i64 k, .int .i64 n, .int .i64 m, .int .i64 (i - 4096)], .int .i64 0]) (by simp [results, Tryd.results18, go_sem, hc]) rfl ⟨by rw [HV.out.1, HV.out.2, HX.out], ?_⟩
                  have HZ := ((Below.refl w.heap.size w).alloc (Nat.le_refl _) (.cells #[.int .i64 0, .int .i64 0, .int .i64 0, .int .i64 0] 45)).trans (HB2.out.mono (by omega))
                  exact (((((below_draws HZ _).setCell (by show w.heap.size ≤ w1.heap.size + 1; omega) _).setCell (Nat.le_refl _) _).setCell (Nat.le_refl _) _).setCell (Nat.le_refl _) _).setCell (Nat.le_refl _) _
                · have hge' : decide (2048 ≤ i) = false := by simpa using hge
                  have HX : Hid ((if layHigh (opShape k) < i then i - ((2 ^ wideI k : Nat) : Int) else i) = i) := by show _ = _; rw [if_neg (by omega)]
                  clear hi2 e5 hw hhi hfull
                  go_wp2_with (go_at_call 31; refine (rRange_any _ _).mono ?_; rintro e w' ⟨rfl, rfl⟩)
                  go_quiet (fail)
                  go_wp2
                  refine bodyPost_ret (v := .tuple #[.agg #[.int .i64 k, .int .i64 n, .int .i64 m, .int .i64 i], .int .i64 0]) (by simp [results, Tryd.results18, go_sem, hc]) rfl ⟨by rw [HV.out.1, HV.out.2, HX.out], ?_⟩
                  exact ((((below_draws (((Below.refl w.heap.size w).alloc (Nat.le_refl _) _).trans (HB2.out.mono (by omega))) _).setCell (by simp) _).setCell (by simp) _).setCell (by simp) _).setCell (by simp) _
            · have hld : decide (layLow (opShape k) < 0) = false := by simpa using hlow
              have HX : Hid ((if layHigh (opShape k) < i then i - ((2 ^ wideI k : Nat) : Int) else i) = i) := by show _ = _; rw [if_neg (by omega)]
              clear lf hlow hi2 e5
              go_wp2_with (go_at_call 31; refine (rRange_any _ _).mono ?_; rintro e w' ⟨rfl, rfl⟩)
              go_quiet (fail)
              go_wp2
              refine bodyPost_ret (v := .tuple #[.agg #[.int .i64 k, .int .i64 n, .int .i64 m, .int .i64 i], .int .i64 0]) (by simp [results, Tryd.results18, go_sem, hc]) rfl ⟨by rw [HV.out.1, HV.out.2, HX.out], ?_⟩
              exact ((((below_draws (((Below.refl w.heap.size w).alloc (Nat.le_refl _) _).trans (HB2.out.mono (by omega))) _).setCell (by simp) _).setCell (by simp) _).setCell (by simp) _).setCell (by simp) _
    · have hk28 : k = 28 := by omega
      subst hk28
      have HV : Hid (decV x = .agg #[.int .i64 0, .int .i64 0, .int .i64 0, .int .i64 0] ∧ decE x = 12) := decV_none HW.out HF.out
      obtain ⟨hc, hf⟩ := bcellB hB
      have HB : Hid (Below w.heap.size w wr) := ((Below.refl w.heap.size w).alloc (Nat.le_refl _) _).trans (hB.mono (by omega))
      clear hB
      go_wp2
      refine bodyPost_ret (v := .tuple #[.agg #[.int .i64 0, .int .i64 0, .int .i64 0, .int .i64 0], .int .i64 12]) (by simp [results, Tryd.results18, go_sem, hc]) rfl ⟨by rw [HV.out.1, HV.out.2], ?_⟩
      exact (((HB.out.setCell (Nat.le_refl _) _).setCell (Nat.le_refl _) _).setCell (Nat.le_refl _) _).setCell (Nat.le_refl _) _

theorem rDec_any (x : Int) (w : World) :
    Calls Tryd.prog 18 #[.int .i64 x] w fun e w' => e = .returned (.tuple #[decV x, .int .i64 (decE x)]) ∧ Below w.heap.size w w' := by
  by_cases hx : 0 ≤ x ∧ x ≤ 65535
  · obtain ⟨y, rfl⟩ := Int.eq_ofNat_of_zero_le hx.1
    exact rDec_in y w (by omega)
  · have hw : withinB x 0 65535 = false := by simp [withinB]; omega
    have e1 : decV x = .agg #[.int .i64 0, .int .i64 0, .int .i64 0, .int .i64 0] := by simp [decV, hw]
    have e2 : decE x = 3 := by simp [decE, hw]
    rw [e1, e2]
    exact rDec_out x w (by omega)

end Go.Proofs.YtabepbaldadmgaaDoor.Isa

namespace Go.Proofs.YtabepbaldadmgaaDoor
open Go.RowKit Isa

/-- What stands at an offset of the bytes. -/
def halfAt (l : List UInt8) (a : Int) : Int := getTo (bsOf l) l.length a 2
/-- No instruction of the image puts. -/
def NoPut (m : Ma) : Prop := ∀ j : Nat, 2 * j + 2 ≤ m.by'.length → ¬ (decE (halfAt m.by' (2 * (j : Int))) = 0 ∧ dV (halfAt m.by' (2 * (j : Int))) 0 = 25)
theorem noput_fetch {m : Ma} (h : NoPut m) (he : m.base % 2 = 0) {a : Int} (h0 : fetchE m a = 0) : fV m a 0 ≠ 25 := by
  unfold fetchE at h0
  by_cases hh : hasB m a 2 = true
  · rw [if_pos hh] at h0
    obtain ⟨q1, q2, q3⟩ := hasB_in hh
    unfold fV
    rw [if_pos hh]
    have := h ((a - m.base).toNat / 2) (by omega)
    have e : 2 * (((a - m.base).toNat / 2 : Nat) : Int) = a - m.base := by omega
    rw [e] at this
    exact fun h25 => this ⟨h0, h25⟩
  · rw [if_neg hh] at h0
    exact absurd h0 (by decide)
theorem by_ite {l : List UInt8} {a b : Ma} {c : Prop} [Decidable c] (ha : a.by' = l) (hb : b.by' = l) : (if c then a else b).by' = l := by
  by_cases h : c
  · rw [if_pos h]; exact ha
  · rw [if_neg h]; exact hb
theorem plain_by {m : Ma} {op n mm imm at' : Int} (h : op ≠ 25) : (plainM m op n mm imm at').by' = m.by' := by
  unfold plainM
  rw [if_neg h]
  repeat' refine by_ite ?_ ?_
  all_goals rfl
theorem step_by {m : Ma} (h : NoPut m) (he : m.base % 2 = 0) (h0 : stepE m = 0) : (stepM m).by' = m.by' ∧ (stepM m).base = m.base := by
  have hf := stepE_fetch h0
  have pp : (preM m).by' = m.by' ∧ (preM m).base = m.base := by unfold preM; split <;> exact ⟨rfl, rfl⟩
  have hnp : NoPut (preM m) := by unfold NoPut; rw [pp.1]; exact h
  unfold stepM
  split
  · exact ⟨rfl, rfl⟩
  · rename_i hend
    split
    · exact ⟨plain_by (noput_fetch h he hf), (plain_keep { m with st := m.st + 1 } _ _ _ _ _).1⟩
    · rename_i hl
      split
      · exact ⟨rfl, rfl⟩
      · rename_i hb
        have hE : fetchE (preM m) (m.pc + 2) = 0 := by
          unfold stepE at h0
          rw [if_neg (by simp [hf]), if_neg hend, if_neg hl, if_neg hb] at h0
          by_cases h1 : fetchE (preM m) (m.pc + 2) = 0
          · exact h1
          · rw [if_pos h1] at h0
            exact absurd h0 h1
        have h25 := noput_fetch hnp (by rw [pp.2]; exact he) hE
        refine ⟨?_, ?_⟩
        · show (plainM (preM m) _ _ _ _ _).by' = _
          rw [plain_by h25, pp.1]
        · show (plainM (preM m) _ _ _ _ _).base = _
          rw [(plain_keep (preM m) _ _ _ _ _).1, pp.2]
/-- The machine M has come of m in k steps; its image is the same. -/
structure StAt (m : Ma) (k : Nat) (M : Ma) : Prop where
  rn : Runs M k
  sm : M.by' = m.by' ∧ M.base = m.base
theorem StAt.step {m : Ma} {k : Nat} {M : Ma} (h : StAt m k M) (hn : NoPut m) (he : m.base % 2 = 0) (h0 : stepE M = 0) : StAt m (k + 1) (stepM M) := by
  have hnp : NoPut M := by unfold NoPut; rw [h.sm.1]; exact hn
  have := step_by hnp (by rw [h.sm.2]; exact he) h0
  exact ⟨(runs_step h.rn (stepE_fetch h0)).1, this.1.trans h.sm.1, this.2.trans h.sm.2⟩

end Go.Proofs.YtabepbaldadmgaaDoor

namespace Go.Proofs.YtabepbaldadmgaaDoor
open Go.RowKit Isa

/-- The box of the machine that goes on, besides the argument's. -/
structure QS (w : World) (c : Array Value) (sy : List Sy) (q8 : Nat) (M : Ma) (W : World) : Prop where
  ab : AB w c W
  b8 : ∃ cz, W.heap[q8]? = some (.cells cz 29 (0, 0)) ∧ MVn q8 W (.agg cz) M sy
  l8 : w.heap.size < q8
theorem QS.next {w : World} {c : Array Value} {sy : List Sy} {q8 : Nat} {M : Ma} {W W' : World} (h : QS w c sy q8 M W) (hb : Below W.heap.size W W') : QS w c sy q8 M W' := by
  obtain ⟨cz, h1, h2⟩ := h.b8
  exact ⟨h.ab.next hb, ⟨cz, (hb.block _ (Array.getElem?_eq_some_iff.1 h1).1).trans h1, h2.next hb⟩, h.l8⟩
theorem QS.put {w : World} {c : Array Value} {sy : List Sy} {q8 : Nat} {M M' : Ma} {W : World} (h : QS w c sy q8 M W) {cn : Array Value} (hn : MVn q8 W (.agg cn) M' sy) : QS w c sy q8 M' (W.setRow q8 cn) := by
  obtain ⟨cz, h1, h2⟩ := h.b8
  have l8 := h.l8
  exact ⟨⟨below_setRow h.ab.bel (by omega) _, by rw [setRow_other _ _ _ _ (by omega)]; exact h.ab.box⟩, ⟨cn, setRow_heap _ _ _ _ _ _ h1, hn.row cn⟩, h.l8⟩

set_option maxHeartbeats 8000000 in
set_option maxRecDepth 100000 in
theorem stays_any (m : Ma) (sy : List Sy) (v : Value) (num : Int) (w : World) (hv : MV w v m sy) (hL : Laid w) (hM : ArgM m sy) :
    Calls Tryd.prog 5 #[v, .int .i64 num] w fun e w' => e = .returned (.bool true) ∧ Below w.heap.size w w' := by
  have hv0 := hv
  obtain ⟨ba, bc, s0, s2, ta, tc, rfl, hB, hT, hS⟩ := hv
  obtain ⟨V, hV⟩ : ∃ V, V = w.alloc (.cells (mC m ba bc (.slice s0 sy.length s2) ta tc) 29) := ⟨_, rfl⟩
  have hA := AB.start w (mC m ba bc (.slice s0 sy.length s2) ta tc)
  rw [← hV] at hA
  have HA := Lib.hid hA
  have HAL := Lib.hid (alive_any V (hL.below hA.bel hL.sz))
  have HRI : Hid (∀ X, Calls Tryd.prog 6 #[.agg (mC m ba bc (.slice s0 sy.length s2) ta tc)] X fun e w' => ∃ b, e = .returned (.bool b) ∧ Below X.heap.size X w' ∧ (b = true → Runs m 0)) := fun X => (right_any m ba bc s0 sy.length s2 ta tc X).mono fun _ _ ⟨b, h1, h2, h3⟩ => ⟨b, h1, h2, fun hb => hM.runs (h3 hb)⟩
  have hsl : sy.length * 24 ≤ 140737488355328 := by have := hM.sl; omega
  have hbl := hM.bl
  have HARG : Hid (∀ X, Below w.heap.size w X → MV X (.agg (mC m ba bc (.slice s0 sy.length s2) ta tc)) m sy ∧ Laid X ∧ BRd X ba m.by' ∧ SrcOf X s0 sy.length (scells sy)) := fun X hX => ⟨hv0.next hX, hL.below hX hL.sz, hB.next hX, hS.below hX (Nat.le_refl _)⟩
  have HV := Lib.hid hV.symm
  have HSY : Hid (sy.length ≤ 140737488355328) := by unfold Hid; have := hM.sl; omega
  clear hV hA hL hv0 hM
  by_cases hc : num < 0 ∨ 200 < num
  · have key : num < 0 ∨ (¬ num < 0 ∧ 200 < num) := by omega
    clear hc
    rcases key with k1 | ⟨k1, k2⟩
    all_goals
      go_enter Tryd.func5, Tryd.ntmps5
      go_upto_region 1 with fail
      rw [HV.out]
      clear HV
      go_wp2_with (first | (go_at_call 17; refine HAL.out.mono ?_; rintro e W1 ⟨rfl, hb1⟩; have HA1 := Lib.hid (HA.out.next hb1); clear hb1) | (refine wpList_load_row rfl 29 _ rfl w.heap.size rfl 29 (mC m ba bc (.slice s0 sy.length s2) ta tc) (0, 0) _ HA1.out.box Tryd.underlying29 rfl (mSize _ _ _ _ _ _) ?_) | (go_at_call 6; refine (HRI.out _).mono ?_; rintro e W2 ⟨b, rfl, hb2, hR2⟩; have HA2 := Lib.hid (HA1.out.next hb2); clear hb2 hR2; cases b) | fail)
      all_goals
        go_ret
        exact ⟨rfl, HA2.out.bel⟩
  · obtain ⟨n, hn⟩ : ∃ n : Nat, (n : Int) = num := ⟨num.toNat, by omega⟩
    have hn2 : n ≤ 200 := by omega
    clear hc
    subst hn
    have k1 : ¬ (n : Int) < 0 := by omega
    have k2 : ¬ (200 : Int) < (n : Int) := by omega
    have d1 : decide ((n : Int) < 0) = false := decide_eq_false k1
    have d2 : decide ((200 : Int) < (n : Int)) = false := decide_eq_false k2
    go_enter Tryd.func5, Tryd.ntmps5
    go_upto_region 1 with fail
    rw [HV.out]
    clear HV
    go_upto_region 5 with (first | (go_at_call 17; refine HAL.out.mono ?_; rintro e W1 ⟨rfl, hb1⟩; have HA1 := Lib.hid (HA.out.next hb1); clear hb1) | (refine wpList_load_row rfl 29 _ rfl w.heap.size rfl 29 (mC m ba bc (.slice s0 sy.length s2) ta tc) (0, 0) _ HA1.out.box Tryd.underlying29 rfl (mSize _ _ _ _ _ _) ?_) | (go_at_call 6; refine (HRI.out _).mono ?_; rintro e W2 ⟨b, rfl, hb2, hR2⟩; have HA2 := Lib.hid (HA1.out.next hb2); clear hb2; cases b) | fail)
    · clear hR2
      go_wp2
      go_ret
      exact ⟨rfl, HA2.out.bel⟩
    · have HR := Lib.hid (hR2 (by first | rfl | trivial))
      clear hR2 HAL HRI HA HA1 k1 k2 d1 d2 hB hT hS
      go_wp2
      go_loopw [5] (fun i wr => ∃ j : Nat, 2 * j ≤ m.by'.length + 1 ∧ i = .int .i64 (2 * (j : Int)) ∧ Hid (AB w (mC m ba bc (.slice s0 sy.length s2) ta tc) wr) ∧ Hid (∀ k : Nat, k < j → ¬ (decE (halfAt m.by' (2 * (k : Int))) = 0 ∧ dV (halfAt m.by' (2 * (k : Int))) 0 = 25))) (fun i _ => m.by'.length + 2 - (intOf i).toNat)
      case atStart => exact ⟨0, by omega, rfl, HA2, fun k hk => absurd hk (by omega)⟩
      case round =>
        obtain ⟨j, hj, rfl, HAB, HNP⟩ := hrel
        clear HA2
        obtain ⟨_, _, _, x19, x20, _, _, _⟩ := mcs HAB.out.box
        by_cases hlt : 2 * j + 2 ≤ m.by'.length
        · have hlt1 : 2 * (j : Int) + 2 ≤ m.by'.length := by omega
          have HG : Hid (∀ X, Below w.heap.size w X → Calls Tryd.prog 19 #[.slice ba m.by'.length bc, .int .i64 (2 * (j : Int)), .int .i64 2] X fun e w' => e = .returned (.int .i64 (halfAt m.by' (2 * (j : Int)))) ∧ X = w') := fun X hX => (rget m ba bc (2 * (j : Int)) 2 X (HARG.out X hX).2.2.1 (by omega) (by omega) (by omega) (by omega) (by omega)).mono fun _ _ ⟨h1, h2⟩ => ⟨h1, h2.symm⟩
          have HDC : Hid (∀ X, Calls Tryd.prog 18 #[.int .i64 (halfAt m.by' (2 * (j : Int)))] X fun e w' => e = .returned (.tuple #[.agg #[.int .i64 (dV (halfAt m.by' (2 * (j : Int))) 0), .int .i64 (dV (halfAt m.by' (2 * (j : Int))) 1), .int .i64 (dV (halfAt m.by' (2 * (j : Int))) 2), .int .i64 (dV (halfAt m.by' (2 * (j : Int))) 3)], .int .i64 (decE (halfAt m.by' (2 * (j : Int))))]) ∧ Below X.heap.size X w') := fun X => by
            have := rDec_any (halfAt m.by' (2 * (j : Int))) X
            rw [(dV_all (halfAt m.by' (2 * (j : Int)))).1] at this
            exact this
          have HNX : Hid (¬ (decE (halfAt m.by' (2 * (j : Int))) = 0 ∧ dV (halfAt m.by' (2 * (j : Int))) 0 = 25) → ∀ k : Nat, k < j + 1 → ¬ (decE (halfAt m.by' (2 * (k : Int))) = 0 ∧ dV (halfAt m.by' (2 * (k : Int))) 0 = 25)) := fun h k hk => by
            by_cases e : k = j
            · rw [e]; exact h
            · exact HNP.out k (by omega)
          clear HNP
          generalize decE (halfAt m.by' (2 * (j : Int))) = ee at HDC HNX
          generalize dV (halfAt m.by' (2 * (j : Int))) 0 = d0 at HDC HNX
          generalize dV (halfAt m.by' (2 * (j : Int))) 1 = d1 at HDC
          generalize dV (halfAt m.by' (2 * (j : Int))) 2 = d2 at HDC
          generalize dV (halfAt m.by' (2 * (j : Int))) 3 = d3 at HDC
          generalize halfAt m.by' (2 * (j : Int)) = xx at HDC HG
          by_cases q1 : ee = 0
          · have q1b : (ee == 0) = true := by simpa using q1
            by_cases q2 : d0 = 25
            · have q2b : (d0 == 25) = true := by simpa using q2
              clear q1 q2 HNX
              go_wp2_with (first | (go_at_call 19; refine (HG.out _ HAB.out.bel).mono ?_; rintro e w' ⟨rfl, rfl⟩) | (go_at_call 18; refine (HDC.out _).mono ?_; rintro e W3 ⟨rfl, hb3⟩; have HAB3 := Lib.hid (HAB.out.next (hb3.trans ((oalloc W3 (.cells #[.int .i64 d0, .int .i64 d1, .int .i64 d2, .int .i64 d3] 45)).mono hb3.size))); clear hb3) | fail)
              go_ret
              exact ⟨rfl, HAB3.out.bel⟩
            · have q2b : (d0 == 25) = false := by simpa using q2
              have HNY := Lib.hid (HNX.out (fun h => q2 h.2))
              clear q1 q2 HNX
              go_wp2_with (first | (go_at_call 19; refine (HG.out _ HAB.out.bel).mono ?_; rintro e w' ⟨rfl, rfl⟩) | (go_at_call 18; refine (HDC.out _).mono ?_; rintro e W3 ⟨rfl, hb3⟩; have HAB3 := Lib.hid (HAB.out.next (hb3.trans ((oalloc W3 (.cells #[.int .i64 d0, .int .i64 d1, .int .i64 d2, .int .i64 d3] 45)).mono hb3.size))); clear hb3) | fail)
              exact ⟨⟨j + 1, by omega, by rw [show (2 * ((j + 1 : Nat) : Int)) = 2 * (j : Int) + 2 by omega], HAB3, HNY⟩, by simp [intOf]; omega⟩
          · have q1b : (ee == 0) = false := by simpa using q1
            have HNY := Lib.hid (HNX.out (fun h => q1 h.1))
            clear q1 HNX
            go_wp2_with (first | (go_at_call 19; refine (HG.out _ HAB.out.bel).mono ?_; rintro e w' ⟨rfl, rfl⟩) | (go_at_call 18; refine (HDC.out _).mono ?_; rintro e W3 ⟨rfl, hb3⟩; have HAB3 := Lib.hid (HAB.out.next (hb3.trans ((oalloc W3 (.cells #[.int .i64 d0, .int .i64 d1, .int .i64 d2, .int .i64 d3] 45)).mono hb3.size))); clear hb3) | fail)
            exact ⟨⟨j + 1, by omega, by rw [show (2 * ((j + 1 : Nat) : Int)) = 2 * (j : Int) + 2 by omega], HAB3, HNY⟩, by simp [intOf]; omega⟩
        · have hlt1 : ¬ 2 * (j : Int) + 2 ≤ m.by'.length := by omega
          have HNO : Hid (NoPut m) := fun k hk => HNP.out k (by omega)
          have hbase := HR.out.b0
          clear HNP
          by_cases hev : m.base % 2 = 0
          · have hev2 : (m.base % 2 != 0) = false := by rw [hev]; rfl
            have HEV := Lib.hid hev
            clear hev
            have HN8 := Lib.hid (blk_new wr #[.int .i64 0, .int .i64 0, .int .i64 0, .int .i64 0, .int .i64 0, .int .i64 0, .int .i64 0, .int .i64 0, .int .i64 0, .int .i64 0, .int .i64 0, .int .i64 0, .int .i64 0, .int .i64 0, .int .i64 0, .int .i64 0, .bool false, .int .i64 0, .int .i64 0, .int .i64 0, .slice none 0 0, .slice none 0 0, .slice none 0 0, .int .i64 0] 29)
            go_wp2_with (first | (refine wpList_load_row rfl 29 _ rfl w.heap.size rfl 29 (mC m ba bc (.slice s0 sy.length s2) ta tc) (0, 0) _ HAB.out.box Tryd.underlying29 rfl (mSize _ _ _ _ _ _) ?_) | (refine wpList_store_row rfl 29 _ _ rfl wr.heap.size (mC m ba bc (.slice s0 sy.length s2) ta tc) rfl rfl 29 #[.int .i64 0, .int .i64 0, .int .i64 0, .int .i64 0, .int .i64 0, .int .i64 0, .int .i64 0, .int .i64 0, .int .i64 0, .int .i64 0, .int .i64 0, .int .i64 0, .int .i64 0, .int .i64 0, .int .i64 0, .int .i64 0, .bool false, .int .i64 0, .int .i64 0, .int .i64 0, .slice none 0 0, .slice none 0 0, .slice none 0 0, .int .i64 0] HN8.out (mSize _ _ _ _ _ _) rfl (mAll _ _ _ _ _ _ _ _) ?_) | fail)
            have HQS : Hid (QS w (mC m ba bc (.slice s0 sy.length s2) ta tc) sy wr.heap.size m ((wr.alloc (.cells #[.int .i64 0, .int .i64 0, .int .i64 0, .int .i64 0, .int .i64 0, .int .i64 0, .int .i64 0, .int .i64 0, .int .i64 0, .int .i64 0, .int .i64 0, .int .i64 0, .int .i64 0, .int .i64 0, .int .i64 0, .int .i64 0, .bool false, .int .i64 0, .int .i64 0, .int .i64 0, .slice none 0 0, .slice none 0 0, .slice none 0 0, .int .i64 0] 29)).setRow wr.heap.size (mC m ba bc (.slice s0 sy.length s2) ta tc))) := by
              obtain ⟨hbx, hqx⟩ := newbox wr #[.int .i64 0, .int .i64 0, .int .i64 0, .int .i64 0, .int .i64 0, .int .i64 0, .int .i64 0, .int .i64 0, .int .i64 0, .int .i64 0, .int .i64 0, .int .i64 0, .int .i64 0, .int .i64 0, .int .i64 0, .int .i64 0, .bool false, .int .i64 0, .int .i64 0, .int .i64 0, .slice none 0 0, .slice none 0 0, .slice none 0 0, .int .i64 0] (mC m ba bc (.slice s0 sy.length s2) ta tc)
              exact ⟨HAB.out.next hbx, ⟨_, hqx, ((HARG.out wr HAB.out.bel).1.n (Nat.le_refl _)).next hbx⟩, HAB.out.lt⟩
            have HST0 : Hid (StAt m 0 m) := ⟨HR.out, rfl, rfl⟩
            generalize World.setRow _ wr.heap.size _ = X8 at *
            generalize wr.heap.size = q8 at *
            clear HN8 HAB x19 x20 hj hlt hlt1
            try simp only [Act.put]
            go_loopw [59] (fun i wr => ∃ k : Nat, k ≤ n ∧ i = .int .i64 k ∧ ∃ M, Hid (StAt m k M) ∧ Hid (QS w (mC m ba bc (.slice s0 sy.length s2) ta tc) sy q8 M wr)) (fun i _ => n - (intOf i).toNat)
            case atStart => exact ⟨0, Nat.zero_le _, rfl, m, HST0, HQS⟩
            case round =>
              obtain ⟨k, hk, rfl, M, HK, HP⟩ := hrel
              clear HST0 HQS
              by_cases hlt : k < n
              · have hk1 : (k : Int) < n := by omega
                obtain ⟨cz, hbz, hvz⟩ := HP.out.b8
                have hfz := hvz.form.1
                have hsz := hvz.form.2.2
                have HBZ := Lib.hid hbz
                have hq8 : q8 < wr.heap.size := (Array.getElem?_eq_some_iff.1 hbz).1
                have HST := Lib.hid (sstep_any M k sy (.agg cz) wr hvz.mv (HARG.out wr HP.out.ab.bel).2.1 HK.out.rn (by omega) hsl)
                clear hbz hvz
                by_cases h0 : stepE M = 0
                · have HK2 := Lib.hid (HK.out.step HNO.out HEV.out h0)
                  rw [h0] at HST
                  clear h0 HK
                  generalize stepM M = M2 at *
                  generalize stepD M = DD at *
                  go_upto_region 19 with (first | (refine wpList_load_row rfl 29 _ rfl q8 rfl 29 cz (0, 0) _ HBZ.out Tryd.underlying29 rfl hfz ?_) | (go_at_call 7; refine HST.out.mono ?_; rintro e W2' ⟨v', rfl, hb2, h2⟩; have hv2 : MVb wr.heap.size W2' v' M2 sy := (by rcases h2 with ⟨h, _⟩ | ⟨_, h⟩; exact absurd rfl h; exact h); have hv2n := hv2.n hq8; obtain ⟨ba2, bc2, s02, s22, ta2, tc2, rfl, hB2, _, hS2, _⟩ := hv2; have HN2 := Lib.hid (blk_new W2' #[.int .i64 0, .int .i64 0, .int .i64 0, .int .i64 0, .int .i64 0, .int .i64 0, .int .i64 0, .int .i64 0, .int .i64 0, .int .i64 0, .int .i64 0, .int .i64 0, .int .i64 0, .int .i64 0, .int .i64 0, .int .i64 0, .bool false, .int .i64 0, .int .i64 0, .int .i64 0, .slice none 0 0, .slice none 0 0, .slice none 0 0, .int .i64 0] 29); have HP2 := Lib.hid (HP.out.next hb2); have HV2 := Lib.hid hv2n; have HBZ2 := Lib.hid ((hb2.block _ (Array.getElem?_eq_some_iff.1 HBZ.out).1).trans HBZ.out); have HB2 := Lib.hid hB2; have HS2 := Lib.hid hS2; clear hb2 h2 hv2n hB2 hS2 HP HBZ HST) | (refine wpList_store_row rfl 29 _ _ rfl W2'.heap.size (mC M2 ba2 bc2 (.slice s02 sy.length s22) ta2 tc2) rfl rfl 29 #[.int .i64 0, .int .i64 0, .int .i64 0, .int .i64 0, .int .i64 0, .int .i64 0, .int .i64 0, .int .i64 0, .int .i64 0, .int .i64 0, .int .i64 0, .int .i64 0, .int .i64 0, .int .i64 0, .int .i64 0, .int .i64 0, .bool false, .int .i64 0, .int .i64 0, .int .i64 0, .slice none 0 0, .slice none 0 0, .slice none 0 0, .int .i64 0] HN2.out (mSize _ _ _ _ _ _) rfl (mAll _ _ _ _ _ _ _ _) ?_; obtain ⟨hbx, hqx⟩ := newbox W2' #[.int .i64 0, .int .i64 0, .int .i64 0, .int .i64 0, .int .i64 0, .int .i64 0, .int .i64 0, .int .i64 0, .int .i64 0, .int .i64 0, .int .i64 0, .int .i64 0, .int .i64 0, .int .i64 0, .int .i64 0, .int .i64 0, .bool false, .int .i64 0, .int .i64 0, .int .i64 0, .slice none 0 0, .slice none 0 0, .slice none 0 0, .int .i64 0] (mC M2 ba2 bc2 (.slice s02 sy.length s22) ta2 tc2); generalize World.setRow _ W2'.heap.size _ = X2 at hbx hqx ⊢; have HP3 := Lib.hid (HP2.out.next hbx); have HV3 := Lib.hid (HV2.out.next hbx); have HQ3 := Lib.hid hqx; have HBZ3 := Lib.hid ((hbx.block _ (Array.getElem?_eq_some_iff.1 HBZ2.out).1).trans HBZ2.out); have HB3 := Lib.hid (HB2.out.next hbx); have HS3 := Lib.hid (HS2.out.below hbx (Nat.le_refl _)); clear hbx hqx HN2 HP2 HV2 HBZ2 HB2 HS2) | fail)
                  generalize W2'.heap.size = q9 at *
                  have HSI := Lib.hid (simg_any m.base m.by' sy (.slice ba2 m.by'.length bc2) (.slice s02 sy.length s22) (.slice ba m.by'.length bc) (.slice s0 sy.length s2) X2 (BRd.ob (HK2.out.sm.1 ▸ HB3.out) (by unfold maxLen; omega)) (SrcOf.sy HS3.out (by have := HSY.out; unfold maxLen; omega)) (BRd.ob (HARG.out X2 HP3.out.ab.bel).2.2.1 (by unfold maxLen; omega)) (SrcOf.sy (HARG.out X2 HP3.out.ab.bel).2.2.2 (by have := HSY.out; unfold maxLen; omega)))
                  obtain ⟨_, _, _, y19, y20, y21, _, _⟩ := mcs HQ3.out
                  obtain ⟨_, _, _, x19, x20, x21, _, _⟩ := mcs HP3.out.ab.box
                  rw [HK2.out.sm.2] at y19
                  rw [HK2.out.sm.1] at y20
                  go_upto_region 21 with (first | (go_at_call 13; refine HSI.out.mono ?_; rintro e W4 ⟨rfl, hb4⟩; have HP4 := Lib.hid (HP3.out.next hb4); have HV4 := Lib.hid (HV3.out.next hb4); have HQ4 := Lib.hid ((hb4.block _ (Array.getElem?_eq_some_iff.1 HQ3.out).1).trans HQ3.out); have HBZ4 := Lib.hid ((hb4.block _ (Array.getElem?_eq_some_iff.1 HBZ3.out).1).trans HBZ3.out); clear hb4 HP3 HV3 HQ3 HBZ3 HB3 HS3 HSI y19 y20 y21 x19 x20 x21) | fail)
                  have a0 := fun kk (hkk : kk < 16) => cell_of_block (i := kk) HQ4.out (mC_reg M2 ba2 bc2 _ ta2 tc2 kk hkk)
                  have a0' := a0 0 (by decide)
                  have a1' := a0 1 (by decide)
                  have a2' := a0 2 (by decide)
                  have a3' := a0 3 (by decide)
                  have a4' := a0 4 (by decide)
                  have a5' := a0 5 (by decide)
                  have a6' := a0 6 (by decide)
                  have a7' := a0 7 (by decide)
                  have a8' := a0 8 (by decide)
                  have a9' := a0 9 (by decide)
                  have a10' := a0 10 (by decide)
                  have a11' := a0 11 (by decide)
                  have a12' := a0 12 (by decide)
                  have a13' := a0 13 (by decide)
                  have a14' := a0 14 (by decide)
                  have a15' := a0 15 (by decide)
                  clear a0
                  go_wp2
                  clear a0' a1' a2' a3' a4' a5' a6' a7' a8' a9' a10' a11' a12' a13' a14' a15'
                  have HRG : Hid (∀ kk, wrap32 (M2.r kk) = M2.r kk) := fun kk => w32_id (HK2.out.rn.reg kk).1 (HK2.out.rn.reg kk).2
                  have HS : Hid (∀ (n : Int) (X : World), Calls Tryd.prog 20 #[.int .i64 n] X fun e w' => e = .returned (.int .i64 (wrap32 n)) ∧ X = w') := fun n X => by
                    have := rSigned_any n X
                    rw [w6432] at this
                    exact this.mono fun _ _ ⟨h1, h2⟩ => ⟨h1, h2.symm⟩
                  try simp only [Act.put]
                  go_loop [80] (fun i => ∃ j : Nat, j ≤ 16 ∧ i = .int .i64 j) (fun i => 16 - (intOf i).toNat)
                  case atStart => exact ⟨0, Nat.zero_le _, rfl⟩
                  case round =>
                    obtain ⟨j, hj, rfl⟩ := hrel
                    by_cases hltj : j < 16
                    · have hix := regIndex M2.r j hltj
                      have hj1 : (j : Int) < 16 := by omega
                      have hq2 : (M2.r j != wrap32 (M2.r j)) = false := by simp [HRG.out j]
                      go_wp2_with (first | (go_at_call 20; refine (HS.out _ _).mono ?_; rintro e w' ⟨rfl, rfl⟩) | fail)
                      exact ⟨⟨j + 1, by omega, by go_num⟩, by simp [intOf]; omega⟩
                    · have hj1 : ¬ (j : Int) < 16 := by omega
                      clear HS HRG
                      cases DD
                      · go_wp2_with (first | (refine wpList_load_row rfl 29 _ rfl q9 rfl 29 (mC M2 ba2 bc2 (.slice s02 sy.length s22) ta2 tc2) (0, 0) _ HQ4.out Tryd.underlying29 rfl (mSize _ _ _ _ _ _) ?_) | (refine wpList_store_row rfl 29 _ _ rfl q8 (mC M2 ba2 bc2 (.slice s02 sy.length s22) ta2 tc2) rfl rfl 29 cz HBZ4.out (mSize _ _ _ _ _ _) (hsz.symm.trans rfl) (mAll _ _ _ _ _ _ _ _) ?_; have HP5 := Lib.hid (HP4.out.put HV4.out); generalize World.setRow W4 q8 (mC M2 ba2 bc2 (.slice s02 sy.length s22) ta2 tc2) = X3 at *; clear HP4 HV4 HQ4 HBZ4) | fail)
                        exact ⟨⟨k + 1, by omega, by go_num, M2, HK2, HP5⟩, by simp [intOf]; omega⟩
                      · go_wp2
                        go_ret
                        exact ⟨rfl, HP4.out.ab.bel⟩
                · have h0b : (stepE M != 0) = true := by simpa using h0
                  have HN0 := Lib.hid h0
                  clear h0 HK
                  generalize stepE M = EE at *
                  generalize stepM M = M2 at *
                  generalize stepD M = DD at *
                  go_wp2_with (first | (refine wpList_load_row rfl 29 _ rfl q8 rfl 29 cz (0, 0) _ HBZ.out Tryd.underlying29 rfl hfz ?_) | (go_at_call 7; refine HST.out.mono ?_; rintro e W2' ⟨v', rfl, hb2, h2⟩; obtain rfl : v' = .agg zC := (by rcases h2 with ⟨_, h⟩ | ⟨h, _⟩; exact h; exact absurd h HN0.out); have HN2 := Lib.hid (blk_new W2' #[.int .i64 0, .int .i64 0, .int .i64 0, .int .i64 0, .int .i64 0, .int .i64 0, .int .i64 0, .int .i64 0, .int .i64 0, .int .i64 0, .int .i64 0, .int .i64 0, .int .i64 0, .int .i64 0, .int .i64 0, .int .i64 0, .bool false, .int .i64 0, .int .i64 0, .int .i64 0, .slice none 0 0, .slice none 0 0, .slice none 0 0, .int .i64 0] 29); have HP2 := Lib.hid (HP.out.next hb2); clear hb2 h2) | (refine wpList_store_row rfl 29 _ _ rfl W2'.heap.size zC rfl rfl 29 #[.int .i64 0, .int .i64 0, .int .i64 0, .int .i64 0, .int .i64 0, .int .i64 0, .int .i64 0, .int .i64 0, .int .i64 0, .int .i64 0, .int .i64 0, .int .i64 0, .int .i64 0, .int .i64 0, .int .i64 0, .int .i64 0, .bool false, .int .i64 0, .int .i64 0, .int .i64 0, .slice none 0 0, .slice none 0 0, .slice none 0 0, .int .i64 0] HN2.out zSize rfl zAll ?_; obtain ⟨hbx, hqx⟩ := newbox W2' #[.int .i64 0, .int .i64 0, .int .i64 0, .int .i64 0, .int .i64 0, .int .i64 0, .int .i64 0, .int .i64 0, .int .i64 0, .int .i64 0, .int .i64 0, .int .i64 0, .int .i64 0, .int .i64 0, .int .i64 0, .int .i64 0, .bool false, .int .i64 0, .int .i64 0, .int .i64 0, .slice none 0 0, .slice none 0 0, .slice none 0 0, .int .i64 0] zC; generalize World.setRow _ W2'.heap.size _ = X2 at hbx hqx ⊢; have HP3 := Lib.hid (HP2.out.next hbx); have HQ3 := Lib.hid hqx; clear hbx hqx HN2 HP2) | (refine wpList_load_row rfl 29 _ rfl W2'.heap.size rfl 29 zC (0, 0) _ HQ3.out Tryd.underlying29 rfl zSize ?_) | (go_at_call 9; refine (same_any zeroM [] (.agg zC) (.agg zC) _ (MV.zero _) (MV.zero _) (by decide) (by decide) (by decide)).mono ?_; rintro e W6 ⟨rfl, hb6⟩; have HB6 := Lib.hid (HP3.out.next hb6).ab.bel; clear hb6) | fail)
                  go_ret
                  exact ⟨rfl, HB6.out⟩
              · have hk1 : ¬ (k : Int) < n := by omega
                go_wp2
                go_ret
                exact ⟨rfl, HP.out.ab.bel⟩
          · have hev2 : (m.base % 2 != 0) = true := by simpa using hev
            clear hev
            go_wp2
            go_ret
            exact ⟨rfl, HAB.out.bel⟩

end Go.Proofs.YtabepbaldadmgaaDoor
