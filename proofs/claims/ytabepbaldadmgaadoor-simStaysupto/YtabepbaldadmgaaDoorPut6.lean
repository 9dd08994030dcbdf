/- The contract of the document's own Wrong, whole. There, and back: what Encode writes Decode reads, and the other way round: the plain mathematics. -/
import Derived.Test.YtabepbaldadmgaaDoorIsaRefW
import Derived.Test.YtabepbaldadmgaaDoorIsaDec
namespace Go.Proofs.YtabepbaldadmgaaDoor.Isa
open Go.RowKit

theorem wrongI_3 {op n m imm : Int} (hk : knownB op = true) (h : ¬ (0 ≤ n ∧ n ≤ layN (opShape op) ∧ 0 ≤ m ∧ m ≤ layM (opShape op) ∧ layLow (opShape op) ≤ imm ∧ imm ≤ layHigh (opShape op))) : wrongI op n m imm = 3 := by
  unfold wrongI
  rw [if_pos hk, if_neg]
  simp only [withinB, decide_eq_true_eq]
  intro h'
  exact h (by omega)

theorem wrongI_0 {op n m imm : Int} (hk : knownB op = true) (h : 0 ≤ n ∧ n ≤ layN (opShape op) ∧ 0 ≤ m ∧ m ≤ layM (opShape op) ∧ layLow (opShape op) ≤ imm ∧ imm ≤ layHigh (opShape op)) : wrongI op n m imm = 0 := by
  unfold wrongI
  rw [if_pos hk, if_pos]
  simp only [withinB, decide_eq_true_eq]
  omega

end Go.Proofs.YtabepbaldadmgaaDoor.Isa

namespace Go.Proofs.YtabepbaldadmgaaDoor.Isa
open Go.RowKit

theorem ofInt_nat (a : Nat) : BitVec.ofInt IntKind.i64.bits (a : Int) = BitVec.ofNat 64 a := rfl

theorem wrap_small (a : Nat) (h : a < 9223372036854775808) : IntKind.i64.wrap (a : Int) = a := by
  rw [IntKind.wrap_i64]; omega

theorem and_nat (a b : Nat) (ha : a < 9223372036854775808) (hb : b < 9223372036854775808) : bits .and .i64 (a : Int) (b : Int) = ((a &&& b : Nat) : Int) := by
  show IntKind.i64.wrap ((BitVec.ofInt IntKind.i64.bits (a : Int) &&& BitVec.ofInt IntKind.i64.bits (b : Int)).toNat : Int) = _
  have : (BitVec.ofInt IntKind.i64.bits (a : Int) &&& BitVec.ofInt IntKind.i64.bits (b : Int)).toNat = a &&& b := by
    rw [ofInt_nat, ofInt_nat]
    show (BitVec.ofNat 64 a &&& BitVec.ofNat 64 b).toNat = _
    rw [BitVec.toNat_and, BitVec.toNat_ofNat, BitVec.toNat_ofNat, Nat.mod_eq_of_lt (by omega), Nat.mod_eq_of_lt (by omega)]
  rw [this]
  exact wrap_small _ (Nat.lt_of_le_of_lt Nat.and_le_left ha)

theorem or_nat (a b : Nat) (ha : a < 4611686018427387904) (hb : b < 4611686018427387904) : bits .or .i64 (a : Int) (b : Int) = ((a ||| b : Nat) : Int) := by
  show IntKind.i64.wrap ((BitVec.ofInt IntKind.i64.bits (a : Int) ||| BitVec.ofInt IntKind.i64.bits (b : Int)).toNat : Int) = _
  have : (BitVec.ofInt IntKind.i64.bits (a : Int) ||| BitVec.ofInt IntKind.i64.bits (b : Int)).toNat = a ||| b := by
    rw [ofInt_nat, ofInt_nat]
    show (BitVec.ofNat 64 a ||| BitVec.ofNat 64 b).toNat = _
    rw [BitVec.toNat_or, BitVec.toNat_ofNat, BitVec.toNat_ofNat, Nat.mod_eq_of_lt (by omega), Nat.mod_eq_of_lt (by omega)]
  rw [this]
  exact wrap_small _ (Nat.lt_of_lt_of_le (Nat.or_lt_two_pow (n := 62) ha hb) (by decide))

theorem andNot_nat (a b : Nat) (ha : a < 9223372036854775808) (hb : b < 9223372036854775808) : bits .andNot .i64 (a : Int) (b : Int) = ((a &&& (18446744073709551615 - b) : Nat) : Int) := by
  show IntKind.i64.wrap ((BitVec.ofInt IntKind.i64.bits (a : Int) &&& ~~~ BitVec.ofInt IntKind.i64.bits (b : Int)).toNat : Int) = _
  have : (BitVec.ofInt IntKind.i64.bits (a : Int) &&& ~~~ BitVec.ofInt IntKind.i64.bits (b : Int)).toNat = a &&& (18446744073709551615 - b) := by
    rw [ofInt_nat, ofInt_nat]
    show (BitVec.ofNat 64 a &&& ~~~ BitVec.ofNat 64 b).toNat = _
    rw [BitVec.toNat_and, BitVec.toNat_not, BitVec.toNat_ofNat, BitVec.toNat_ofNat, Nat.mod_eq_of_lt (by omega), Nat.mod_eq_of_lt (by omega)]
  rw [this]
  exact wrap_small _ (Nat.lt_of_le_of_lt Nat.and_le_left ha)

/-- Which op half word x is: 0, if none. -/
def decN (x : Nat) : Nat := bif Nat.beq (Nat.land x 18446744073709551615) 9 then 1 else bif Nat.beq (Nat.land x 18446744073709551615) 11 then 2 else bif Nat.beq (Nat.land x 18446744073709547520) 57344 then 3 else bif Nat.beq (Nat.land x 18446744073709547520) 28672 then 4 else bif Nat.beq (Nat.land x 18446744073709547535) 24579 then 5 else bif Nat.beq (Nat.land x 18446744073709547535) 12300 then 6 else bif Nat.beq (Nat.land x 18446744073709547535) 12296 then 7 else bif Nat.beq (Nat.land x 18446744073709547535) 8201 then 8 else bif Nat.beq (Nat.land x 18446744073709547535) 8203 then 9 else bif Nat.beq (Nat.land x 18446744073709547535) 8202 then 10 else bif Nat.beq (Nat.land x 18446744073709547535) 8200 then 11 else bif Nat.beq (Nat.land x 18446744073709547535) 12288 then 12 else bif Nat.beq (Nat.land x 18446744073709547535) 12295 then 13 else bif Nat.beq (Nat.land x 18446744073709547775) 16384 then 14 else bif Nat.beq (Nat.land x 18446744073709547775) 16385 then 15 else bif Nat.beq (Nat.land x 18446744073709547775) 16400 then 16 else bif Nat.beq (Nat.land x 18446744073709551360) 35072 then 17 else bif Nat.beq (Nat.land x 18446744073709551360) 35584 then 18 else bif Nat.beq (Nat.land x 18446744073709547520) 40960 then 19 else bif Nat.beq (Nat.land x 18446744073709547520) 45056 then 20 else bif Nat.beq (Nat.land x 18446744073709547775) 16427 then 21 else bif Nat.beq (Nat.land x 18446744073709547775) 16395 then 22 else bif Nat.beq (Nat.land x 18446744073709547520) 36864 then 23 else bif Nat.beq (Nat.land x 18446744073709547520) 53248 then 24 else bif Nat.beq (Nat.land x 18446744073709547535) 8194 then 25 else bif Nat.beq (Nat.land x 18446744073709547535) 24578 then 26 else bif Nat.beq (Nat.land x 18446744073709551360) 49920 then 27 else 0

/-- f holds of all numbers from b on, as many as 2 to the d. -/
def allB (f : Nat → Bool) : Nat → Nat → Bool
  | 0, b => f b
  | d + 1, b => allB f d b && allB f d (b + 2 ^ d)

theorem allB_spec (f : Nat → Bool) : ∀ d b, allB f d b = true → ∀ x, b ≤ x → x < b + 2 ^ d → f x = true := by
  intro d
  induction d with
  | zero => intro b h x h1 h2; simp at h2; have : x = b := by omega
            subst this; exact h
  | succ d ih =>
    intro b h x h1 h2
    simp only [allB, Bool.and_eq_true] at h
    rw [Nat.pow_succ] at h2
    by_cases hx : x < b + 2 ^ d
    · exact ih b h.1 x h1 hx
    · exact ih _ h.2 x (by omega) (by omega)

/-- How many bits the registers and the number of op k have. -/
def wideN (k : Nat) : Nat := [0, 0, 0, 4, 4, 4, 4, 4, 4, 4, 4, 4, 4, 4, 4, 4, 4, 0, 0, 0, 0, 4, 4, 4, 4, 4, 4, 0].getD k 0
def wideM (k : Nat) : Nat := [0, 0, 0, 0, 0, 4, 4, 4, 4, 4, 4, 4, 4, 4, 0, 0, 0, 0, 0, 0, 0, 0, 0, 0, 0, 4, 4, 0].getD k 0
def wideI (k : Nat) : Nat := [0, 0, 0, 8, 8, 0, 0, 0, 0, 0, 0, 0, 0, 0, 0, 0, 0, 8, 8, 12, 12, 0, 0, 8, 8, 0, 0, 8].getD k 0

def encN (k n m i : Nat) : Nat := Nat.lor (Nat.lor (Nat.lor (opBits k).toNat (n * 256)) (m * 16)) i

def chk1 (k : Nat) : Bool :=
  allB (fun n => allB (fun m => allB (fun i => Nat.beq (decN (encN k n m i)) k && Nat.beq (Nat.land (encN k n m i / 256) (2 ^ wideN k - 1)) n && Nat.beq (Nat.land (encN k n m i / 16) (2 ^ wideM k - 1)) m && Nat.beq (Nat.land (encN k n m i) (2 ^ wideI k - 1)) i && Nat.ble (encN k n m i) 65535) (wideI k) 0) (wideM k) 0) (wideN k) 0

def chk2 (x : Nat) : Bool :=
  Nat.beq (decN x) 0 || (Nat.beq (encN (decN x) (Nat.land (x / 256) (2 ^ wideN (decN x) - 1)) (Nat.land (x / 16) (2 ^ wideM (decN x) - 1)) (Nat.land x (2 ^ wideI (decN x) - 1))) x && Nat.ble (decN x) 27)

set_option maxRecDepth 100000 in
theorem chk1_all : ((List.range 28).all fun k => Nat.beq k 0 || chk1 k) = true := by decide +kernel

set_option maxRecDepth 100000 in
theorem chk2_all : allB chk2 16 0 = true := by decide +kernel

end Go.Proofs.YtabepbaldadmgaaDoor.Isa
