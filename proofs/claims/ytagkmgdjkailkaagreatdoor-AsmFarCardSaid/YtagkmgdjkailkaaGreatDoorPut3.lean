/- The contract of isa.Find. The contract of isa.Decode. The contract of isa.Get: a number of at most six bytes. There, and back: what Encode writes Decode reads, and the other way round: the plain mathematics. There, and back: what Encode writes Decode reads, and the other way round. -/
import Derived.Test.YtagkmgdjkailkaaGreatDoorPut1
import Derived.Laws.Rows
namespace Go.Proofs.YtagkmgdjkailkaaGreatDoor.Isa
open Go.RowKit

/-- A row of the table 'operations' as a value. -/
def opV (k : Int) : Value := .agg #[.string (opName k), .int .i64 (opShape k), .int .i64 (opBits k)]

set_option maxRecDepth 100000 in
theorem opIndexAll (w : World) : ((List.range 28).map fun k : Nat => (Instr.index 283 (.agg opCells) (.int .i64 (k : Int))).run Tryz.prog w) = (List.range 28).map fun k : Nat => .ok (opV (k : Int)) w := by kernel_rfl

theorem opIndex (k : Nat) (hk : k < 28) (w : World) : (Instr.index 283 (.agg opCells) (.int .i64 (k : Int))).run Tryz.prog w = .ok (.agg #[.string (opName k), .int .i64 (opShape k), .int .i64 (opBits k)]) w := by
  have h := congrArg (fun l => l[k]?) (opIndexAll w)
  simpa [hk, opV] using h

theorem opSize : (Tryz.prog.info? 283).map (·.size) = some opCells.size := by kernel_rfl

/-- Which op, from k on, has this name and shape: 0, if none has. -/
def findFrom (name : ByteArray) (shape : Int) : Nat → Nat → Int
  | 0, _ => 0
  | fuel + 1, k => if knownB k = true ∧ (opName k).toList = name.toList ∧ opShape k = shape then (k : Int) else findFrom name shape fuel (k + 1)

theorem find_yes {name : ByteArray} {shape : Int} {k : Nat} (hk : k < 28) (hf : findFrom name shape 28 0 = findFrom name shape (28 - k) k) (h1 : knownB k = true) (h2 : (opName k).toList = name.toList) (h3 : (opShape k == shape) = true) : findFrom name shape 28 0 = (k : Int) := by
  rw [hf]
  obtain ⟨j, hj⟩ : ∃ j, 28 - k = j + 1 := ⟨27 - k, by omega⟩
  rw [hj]
  unfold findFrom
  rw [if_pos ⟨h1, h2, by simpa using h3⟩]

theorem find_no {name : ByteArray} {shape : Int} {k : Nat} (hk : k < 28) (hf : findFrom name shape 28 0 = findFrom name shape (28 - k) k) (h : ¬ (knownB k = true ∧ (opName k).toList = name.toList ∧ opShape k = shape)) : findFrom name shape 28 0 = findFrom name shape (28 - (k + 1)) (k + 1) := by
  rw [hf]
  obtain ⟨j, hj⟩ : ∃ j, 28 - k = j + 1 := ⟨27 - k, by omega⟩
  have hj' : 28 - (k + 1) = j := by omega
  rw [hj, hj']
  rw [findFrom, if_neg h]

theorem find_any (name : ByteArray) (shape : Int) (w : World) (hL : Laid w) :
    Calls Tryz.prog 165 #[.string name, .int .i64 shape] w fun e w' => e = .returned (.int .i64 (findFrom name shape 28 0)) ∧ Below w.heap.size w w' := by
  obtain ⟨t, fr, hblk⟩ := hL.blk
  go_enter Tryz.func165, Tryz.ntmps165
  go_wp2_with (refine wpList_load_row rfl 283 _ rfl 7 rfl t opCells fr _ hblk Tryz.underlying283 rfl opSize ?_)
  clear hblk
  go_loopw [8] (fun i wr => ∃ k : Nat, k ≤ 28 ∧ i = .int .i64 k ∧ Below w.heap.size w wr ∧ Hid (findFrom name shape 28 0 = findFrom name shape (28 - k) k)) (fun i _ => 28 - (intOf i).toNat)
  case atStart => exact ⟨0, Nat.zero_le _, rfl, Below.refl _ _, rfl⟩
  case round =>
    obtain ⟨k, hk, rfl, hB, HF⟩ := hrel
    by_cases hlt : k < 28
    · have hi := opIndex k hlt
      have hk' : (k : Int) < 28 := by omega
      cases hkn : knownB k
      · go_wp2_with (go_at_call 191; refine (known_any _ _).mono ?_; rintro e w' ⟨rfl, rfl⟩)
        exact ⟨⟨k + 1, by omega, by go_num, hB.alloc hB.size _, find_no hlt HF.out (by simp [hkn])⟩, by simp [intOf]; omega⟩
      · go_wp2_with (go_at_call 191; refine (known_any _ _).mono ?_; rintro e w' ⟨rfl, rfl⟩)
        · have h2 : (opName k).toList = name.toList := by assumption
          have h3 : (opShape k == shape) = true := by assumption
          have hfin := find_yes hlt HF.out hkn h2 h3
          go_ret
          exact ⟨ret_int hfin.symm, hB.alloc hB.size _⟩
        · have h3 : (opShape k == shape) = false := by assumption
          exact ⟨⟨k + 1, by omega, by go_num, hB.alloc hB.size _, find_no hlt HF.out (by simp at h3; simp [h3])⟩, by simp [intOf]; omega⟩
        · have h2 : ¬ (opName k).toList = name.toList := by assumption
          exact ⟨⟨k + 1, by omega, by go_num, hB.alloc hB.size _, find_no hlt HF.out (by simp [h2])⟩, by simp [intOf]; omega⟩
    · have hk' : ¬ (k : Int) < 28 := by omega
      have hfin : findFrom name shape 28 0 = 0 := by
        rw [HF.out, show 28 - k = 0 by omega]; rfl
      have HX : Hid (findFrom name shape 28 0 = 0) := hfin
      clear hfin
      go_wp2
      go_ret
      exact ⟨ret_int HX.out.symm, hB⟩

end Go.Proofs.YtagkmgdjkailkaaGreatDoor.Isa

namespace Go.Proofs.YtagkmgdjkailkaaGreatDoor.Isa
open Go.RowKit

/-- The bits of op k's operands. -/
def maskOf (k : Int) : Int := opMask (layN (opShape k)) (layM (opShape k)) (layLow (opShape k)) (layHigh (opShape k))
/-- Is half word x an instruction of op k? -/
def decHit (x k : Int) : Bool := knownB k && (bits .andNot .i64 x (maskOf k) == opBits k)
/-- Which op, from k on, is written so: 0, if none is. -/
def decFrom (x : Int) : Nat → Nat → Int
  | 0, _ => 0
  | fuel + 1, k => if decHit x k = true then (k : Int) else decFrom x fuel (k + 1)

theorem dec_yes {x : Int} {k : Nat} (hk : k < 28) (hf : decFrom x 28 0 = decFrom x (28 - k) k) (h : decHit x k = true) : decFrom x 28 0 = (k : Int) := by
  rw [hf]
  obtain ⟨j, hj⟩ : ∃ j, 28 - k = j + 1 := ⟨27 - k, by omega⟩
  rw [hj, decFrom, if_pos h]

theorem dec_no {x : Int} {k : Nat} (hk : k < 28) (hf : decFrom x 28 0 = decFrom x (28 - k) k) (h : decHit x k = false) : decFrom x 28 0 = decFrom x (28 - (k + 1)) (k + 1) := by
  rw [hf]
  obtain ⟨j, hj⟩ : ∃ j, 28 - k = j + 1 := ⟨27 - k, by omega⟩
  have hj' : 28 - (k + 1) = j := by omega
  rw [hj, hj', decFrom, if_neg (by simp [h])]

/-- What Decode tells of a half word: the instruction's value, and the error. -/
def decV (x : Int) : Value :=
  if withinB x 0 65535 = true ∧ decFrom x 28 0 ≠ 0 then rdV (layN (opShape (decFrom x 28 0))) (layM (opShape (decFrom x 28 0))) (layLow (opShape (decFrom x 28 0))) (layHigh (opShape (decFrom x 28 0))) (decFrom x 28 0) x
  else .agg #[.int .i64 0, .int .i64 0, .int .i64 0, .int .i64 0]
def decE (x : Int) : Int := if withinB x 0 65535 = true then (if decFrom x 28 0 = 0 then 12 else 0) else 3

theorem bcellB {B : Nat} {W w1 : World} (hb : Below B W w1) : (∀ b o, b < B → w1.cell? ⟨b, o, none⟩ = W.cell? ⟨b, o, none⟩) ∧ (∀ b o, b < B → w1.frozen? ⟨b, o, none⟩ = W.frozen? ⟨b, o, none⟩) :=
  ⟨fun b o h => hb.cell (p := ⟨b, o, none⟩) h, fun b o h => hb.frozen (p := ⟨b, o, none⟩) h⟩

theorem decV_hit {x : Int} {k : Nat} (hk : k < 28) (hw : withinB x 0 65535 = true) (hf : decFrom x 28 0 = decFrom x (28 - k) k) (h : decHit x k = true) :
    decV x = rdV (layN (opShape k)) (layM (opShape k)) (layLow (opShape k)) (layHigh (opShape k)) k x ∧ decE x = 0 := by
  have e := dec_yes hk hf h
  have h0 : (k : Int) ≠ 0 := by
    intro h0
    rw [h0] at h
    simp [decHit, knownB, withinB] at h
  unfold decV decE
  rw [e, if_pos ⟨hw, h0⟩, if_pos hw, if_neg h0]
  exact ⟨rfl, rfl⟩

theorem decV_none {x : Int} (hw : withinB x 0 65535 = true) (hf : decFrom x 28 0 = 0) :
    decV x = .agg #[.int .i64 0, .int .i64 0, .int .i64 0, .int .i64 0] ∧ decE x = 12 := by
  unfold decV decE
  rw [hf, if_neg (by simp), if_pos hw, if_pos rfl]
  exact ⟨rfl, rfl⟩

end Go.Proofs.YtagkmgdjkailkaaGreatDoor.Isa

namespace Go.Proofs.YtagkmgdjkailkaaGreatDoor.Isa
open Go.RowKit

/-- The byte at place p of bytes that are len many: 0, if it is not there. -/
def byteAt (bs : Nat → Int) (len : Nat) (p : Int) : Int := if 0 ≤ p ∧ p < (len : Int) then bs p.toNat else 0
/-- The number of the k bytes from at on. -/
def getTo (bs : Nat → Int) (len : Nat) (at' : Int) : Nat → Int
  | 0 => 0
  | k + 1 => getTo bs len at' k * 256 + byteAt bs len (at' + k)

def IsByte (bs : Nat → Int) : Prop := ∀ i, 0 ≤ bs i ∧ bs i ≤ 255

theorem byteAt_bd {bs : Nat → Int} (h : IsByte bs) (len : Nat) (p : Int) : 0 ≤ byteAt bs len p ∧ byteAt bs len p ≤ 255 := by
  unfold byteAt
  split
  · exact h _
  · omega

theorem getTo_bd {bs : Nat → Int} (h : IsByte bs) (len : Nat) (a : Int) (k : Nat) : 0 ≤ getTo bs len a k ∧ getTo bs len a k < (256 : Int) ^ k := by
  induction k with
  | zero => simp [getTo]
  | succ k ih =>
    have := byteAt_bd h len (a + k)
    rw [getTo, Int.pow_succ]
    omega

end Go.Proofs.YtagkmgdjkailkaaGreatDoor.Isa

namespace Go.Proofs.YtagkmgdjkailkaaGreatDoor.Isa
open Go.RowKit

theorem ofInt_nat (a : Nat) : BitVec.ofInt IntKind.i64.bits (a : Int) = BitVec.ofNat 64 a := rfl

theorem wrap_small (a : Nat) (h : a < 9223372036854775808) : IntKind.i64.wrap (a : Int) = a := by
  rw [IntKind.wrap_i64]; omega

theorem and_nat (a b : Nat) (ha : a < 9223372036854775808) (hb : b < 9223372036854775808) : bits .and .i64 (a : Int) (b : Int) = ((a &&& b : Nat) : Int) := by
  show IntKind.i64.wrap ((BitVec.ofInt IntKind.i64.bits (a : Int) &&& BitVec.ofInt IntKind.i64.bits (b : Int)).toNat : Int) = _
  have : (BitVec.ofInt IntKind.i64.bits (a : Int) &&& BitVec.ofInt IntKind.i64.bits (b : Int)).toNat = a &&& b := by
    rw [ofInt_nat, ofInt_nat]
    show (BitVec.ofNat 64 a &&& BitVec.ofNat 64 b).toNat = _
    rw [BitVec.toNat_and, BitVec.toNat_ofNat, BitVec.toNat_ofNat, Nat.mod_eq_of_lt (by omega), Nat.mod_eq_of_lt (by omega)]
  rw [this]
  exact wrap_small _ (Nat.lt_of_le_of_lt Nat.and_le_left ha)

theorem or_nat (a b : Nat) (ha : a < 4611686018427387904) (hb : b < 4611686018427387904) : bits .or .i64 (a : Int) (b : Int) = ((a ||| b : Nat) : Int) := by
  show IntKind.i64.wrap ((BitVec.ofInt IntKind.i64.bits (a : Int) ||| BitVec.ofInt IntKind.i64.bits (b : Int)).toNat : Int) = _
  have : (BitVec.ofInt IntKind.i64.bits (a : Int) ||| BitVec.ofInt IntKind.i64.bits (b : Int)).toNat = a ||| b := by
    rw [ofInt_nat, ofInt_nat]
    show (BitVec.ofNat 64 a ||| BitVec.ofNat 64 b).toNat = _
    rw [BitVec.toNat_or, BitVec.toNat_ofNat, BitVec.toNat_ofNat, Nat.mod_eq_of_lt (by omega), Nat.mod_eq_of_lt (by omega)]
  rw [this]
  exact wrap_small _ (Nat.lt_of_lt_of_le (Nat.or_lt_two_pow (n := 62) ha hb) (by decide))

theorem andNot_nat (a b : Nat) (ha : a < 9223372036854775808) (hb : b < 9223372036854775808) : bits .andNot .i64 (a : Int) (b : Int) = ((a &&& (18446744073709551615 - b) : Nat) : Int) := by
  show IntKind.i64.wrap ((BitVec.ofInt IntKind.i64.bits (a : Int) &&& ~~~ BitVec.ofInt IntKind.i64.bits (b : Int)).toNat : Int) = _
  have : (BitVec.ofInt IntKind.i64.bits (a : Int) &&& ~~~ BitVec.ofInt IntKind.i64.bits (b : Int)).toNat = a &&& (18446744073709551615 - b) := by
    rw [ofInt_nat, ofInt_nat]
    show (BitVec.ofNat 64 a &&& ~~~ BitVec.ofNat 64 b).toNat = _
    rw [BitVec.toNat_and, BitVec.toNat_not, BitVec.toNat_ofNat, BitVec.toNat_ofNat, Nat.mod_eq_of_lt (by omega), Nat.mod_eq_of_lt (by omega)]
  rw [this]
  exact wrap_small _ (Nat.lt_of_le_of_lt Nat.and_le_left ha)

/-- Which op half word x is: 0, if none. -/
def decN (x : Nat) : Nat := bif Nat.beq (Nat.land x 18446744073709551615) 9 then 1 else bif Nat.beq (Nat.land x 18446744073709551615) 11 then 2 else bif Nat.beq (Nat.land x 18446744073709547520) 57344 then 3 else bif Nat.beq (Nat.land x 18446744073709547520) 28672 then 4 else bif Nat.beq (Nat.land x 18446744073709547535) 24579 then 5 else bif Nat.beq (Nat.land x 18446744073709547535) 12300 then 6 else bif Nat.beq (Nat.land x 18446744073709547535) 12296 then 7 else bif Nat.beq (Nat.land x 18446744073709547535) 8201 then 8 else bif Nat.beq (Nat.land x 18446744073709547535) 8203 then 9 else bif Nat.beq (Nat.land x 18446744073709547535) 8202 then 10 else bif Nat.beq (Nat.land x 18446744073709547535) 8200 then 11 else bif Nat.beq (Nat.land x 18446744073709547535) 12288 then 12 else bif Nat.beq (Nat.land x 18446744073709547535) 12295 then 13 else bif Nat.beq (Nat.land x 18446744073709547775) 16384 then 14 else bif Nat.beq (Nat.land x 18446744073709547775) 16385 then 15 else bif Nat.beq (Nat.land x 18446744073709547775) 16400 then 16 else bif Nat.beq (Nat.land x 18446744073709551360) 35072 then 17 else bif Nat.beq (Nat.land x 18446744073709551360) 35584 then 18 else bif Nat.beq (Nat.land x 18446744073709547520) 40960 then 19 else bif Nat.beq (Nat.land x 18446744073709547520) 45056 then 20 else bif Nat.beq (Nat.land x 18446744073709547775) 16427 then 21 else bif Nat.beq (Nat.land x 18446744073709547775) 16395 then 22 else bif Nat.beq (Nat.land x 18446744073709547520) 36864 then 23 else bif Nat.beq (Nat.land x 18446744073709547520) 53248 then 24 else bif Nat.beq (Nat.land x 18446744073709547535) 8194 then 25 else bif Nat.beq (Nat.land x 18446744073709547535) 24578 then 26 else bif Nat.beq (Nat.land x 18446744073709551360) 49920 then 27 else 0

/-- f holds of all numbers from b on, as many as 2 to the d. -/
def allB (f : Nat → Bool) : Nat → Nat → Bool
  | 0, b => f b
  | d + 1, b => allB f d b && allB f d (b + 2 ^ d)

theorem allB_spec (f : Nat → Bool) : ∀ d b, allB f d b = true → ∀ x, b ≤ x → x < b + 2 ^ d → f x = true := by
  intro d
  induction d with
  | zero => intro b h x h1 h2; simp at h2; have : x = b := by omega
            subst this; exact h
  | succ d ih =>
    intro b h x h1 h2
    simp only [allB, Bool.and_eq_true] at h
    rw [Nat.pow_succ] at h2
    by_cases hx : x < b + 2 ^ d
    · exact ih b h.1 x h1 hx
    · exact ih _ h.2 x (by omega) (by omega)

/-- How many bits the registers and the number of op k have. -/
def wideN (k : Nat) : Nat := [0, 0, 0, 4, 4, 4, 4, 4, 4, 4, 4, 4, 4, 4, 4, 4, 4, 0, 0, 0, 0, 4, 4, 4, 4, 4, 4, 0].getD k 0
def wideM (k : Nat) : Nat := [0, 0, 0, 0, 0, 4, 4, 4, 4, 4, 4, 4, 4, 4, 0, 0, 0, 0, 0, 0, 0, 0, 0, 0, 0, 4, 4, 0].getD k 0
def wideI (k : Nat) : Nat := [0, 0, 0, 8, 8, 0, 0, 0, 0, 0, 0, 0, 0, 0, 0, 0, 0, 8, 8, 12, 12, 0, 0, 8, 8, 0, 0, 8].getD k 0

def encN (k n m i : Nat) : Nat := Nat.lor (Nat.lor (Nat.lor (opBits k).toNat (n * 256)) (m * 16)) i

def chk1 (k : Nat) : Bool :=
  allB (fun n => allB (fun m => allB (fun i => Nat.beq (decN (encN k n m i)) k && Nat.beq (Nat.land (encN k n m i / 256) (2 ^ wideN k - 1)) n && Nat.beq (Nat.land (encN k n m i / 16) (2 ^ wideM k - 1)) m && Nat.beq (Nat.land (encN k n m i) (2 ^ wideI k - 1)) i && Nat.ble (encN k n m i) 65535) (wideI k) 0) (wideM k) 0) (wideN k) 0

def chk2 (x : Nat) : Bool :=
  Nat.beq (decN x) 0 || (Nat.beq (encN (decN x) (Nat.land (x / 256) (2 ^ wideN (decN x) - 1)) (Nat.land (x / 16) (2 ^ wideM (decN x) - 1)) (Nat.land x (2 ^ wideI (decN x) - 1))) x && Nat.ble (decN x) 27)

set_option maxRecDepth 100000 in
theorem chk1_all : ((List.range 28).all fun k => Nat.beq k 0 || chk1 k) = true := by decide +kernel

end Go.Proofs.YtagkmgdjkailkaaGreatDoor.Isa

namespace Go.Proofs.YtagkmgdjkailkaaGreatDoor.Isa
open Go.RowKit

theorem hit_nat (x k m b : Nat) (hx : x < 65536) (hk : knownB k = true) (hm : maskOf k = m) (hb : opBits k = b) (hm' : m < 65536) :
    decHit x k = Nat.beq (Nat.land x (18446744073709551615 - m)) b := by
  unfold decHit
  rw [hk, hm, hb, andNot_nat x m (by omega) (by omega), Bool.true_and, Bool.eq_iff_iff]
  show (((x &&& (18446744073709551615 - m) : Nat) : Int) == (b : Int)) = true ↔ Nat.beq (x &&& (18446744073709551615 - m)) b = true
  rw [beq_iff_eq, Nat.beq_eq]
  omega

theorem dec_step (x f k : Nat) (t : Nat) (c : Bool) (hc : decHit x k = c) (h : decFrom x f (k + 1) = (t : Int)) : decFrom x (f + 1) k = ((bif c then k else t : Nat) : Int) := by
  rw [decFrom, hc, h]
  cases c <;> simp

set_option maxRecDepth 100000 in
theorem decFrom_nat (x : Nat) (hx : x < 65536) : decFrom x 28 0 = (decN x : Int) := by
  have e28 : decFrom x 0 28 = ((0 : Nat) : Int) := rfl
  have e27 := dec_step x 0 27 _ _ (hit_nat x 27 255 49920 hx (by decide +kernel) (by decide +kernel) (by decide +kernel) (by decide)) e28
  have e26 := dec_step x 1 26 _ _ (hit_nat x 26 4080 24578 hx (by decide +kernel) (by decide +kernel) (by decide +kernel) (by decide)) e27
  have e25 := dec_step x 2 25 _ _ (hit_nat x 25 4080 8194 hx (by decide +kernel) (by decide +kernel) (by decide +kernel) (by decide)) e26
  have e24 := dec_step x 3 24 _ _ (hit_nat x 24 4095 53248 hx (by decide +kernel) (by decide +kernel) (by decide +kernel) (by decide)) e25
  have e23 := dec_step x 4 23 _ _ (hit_nat x 23 4095 36864 hx (by decide +kernel) (by decide +kernel) (by decide +kernel) (by decide)) e24
  have e22 := dec_step x 5 22 _ _ (hit_nat x 22 3840 16395 hx (by decide +kernel) (by decide +kernel) (by decide +kernel) (by decide)) e23
  have e21 := dec_step x 6 21 _ _ (hit_nat x 21 3840 16427 hx (by decide +kernel) (by decide +kernel) (by decide +kernel) (by decide)) e22
  have e20 := dec_step x 7 20 _ _ (hit_nat x 20 4095 45056 hx (by decide +kernel) (by decide +kernel) (by decide +kernel) (by decide)) e21
  have e19 := dec_step x 8 19 _ _ (hit_nat x 19 4095 40960 hx (by decide +kernel) (by decide +kernel) (by decide +kernel) (by decide)) e20
  have e18 := dec_step x 9 18 _ _ (hit_nat x 18 255 35584 hx (by decide +kernel) (by decide +kernel) (by decide +kernel) (by decide)) e19
  have e17 := dec_step x 10 17 _ _ (hit_nat x 17 255 35072 hx (by decide +kernel) (by decide +kernel) (by decide +kernel) (by decide)) e18
  have e16 := dec_step x 11 16 _ _ (hit_nat x 16 3840 16400 hx (by decide +kernel) (by decide +kernel) (by decide +kernel) (by decide)) e17
  have e15 := dec_step x 12 15 _ _ (hit_nat x 15 3840 16385 hx (by decide +kernel) (by decide +kernel) (by decide +kernel) (by decide)) e16
  have e14 := dec_step x 13 14 _ _ (hit_nat x 14 3840 16384 hx (by decide +kernel) (by decide +kernel) (by decide +kernel) (by decide)) e15
  have e13 := dec_step x 14 13 _ _ (hit_nat x 13 4080 12295 hx (by decide +kernel) (by decide +kernel) (by decide +kernel) (by decide)) e14
  have e12 := dec_step x 15 12 _ _ (hit_nat x 12 4080 12288 hx (by decide +kernel) (by decide +kernel) (by decide +kernel) (by decide)) e13
  have e11 := dec_step x 16 11 _ _ (hit_nat x 11 4080 8200 hx (by decide +kernel) (by decide +kernel) (by decide +kernel) (by decide)) e12
  have e10 := dec_step x 17 10 _ _ (hit_nat x 10 4080 8202 hx (by decide +kernel) (by decide +kernel) (by decide +kernel) (by decide)) e11
  have e9 := dec_step x 18 9 _ _ (hit_nat x 9 4080 8203 hx (by decide +kernel) (by decide +kernel) (by decide +kernel) (by decide)) e10
  have e8 := dec_step x 19 8 _ _ (hit_nat x 8 4080 8201 hx (by decide +kernel) (by decide +kernel) (by decide +kernel) (by decide)) e9
  have e7 := dec_step x 20 7 _ _ (hit_nat x 7 4080 12296 hx (by decide +kernel) (by decide +kernel) (by decide +kernel) (by decide)) e8
  have e6 := dec_step x 21 6 _ _ (hit_nat x 6 4080 12300 hx (by decide +kernel) (by decide +kernel) (by decide +kernel) (by decide)) e7
  have e5 := dec_step x 22 5 _ _ (hit_nat x 5 4080 24579 hx (by decide +kernel) (by decide +kernel) (by decide +kernel) (by decide)) e6
  have e4 := dec_step x 23 4 _ _ (hit_nat x 4 4095 28672 hx (by decide +kernel) (by decide +kernel) (by decide +kernel) (by decide)) e5
  have e3 := dec_step x 24 3 _ _ (hit_nat x 3 4095 57344 hx (by decide +kernel) (by decide +kernel) (by decide +kernel) (by decide)) e4
  have e2 := dec_step x 25 2 _ _ (hit_nat x 2 0 11 hx (by decide +kernel) (by decide +kernel) (by decide +kernel) (by decide)) e3
  have e1 := dec_step x 26 1 _ _ (hit_nat x 1 0 9 hx (by decide +kernel) (by decide +kernel) (by decide +kernel) (by decide)) e2
  have e0 : decFrom x 28 0 = decFrom x 27 1 := by
    rw [decFrom, if_neg (by rw [decHit, show knownB ((0 : Nat) : Int) = false by decide +kernel]; simp)]
  rw [e0, e1]
  rfl

/-- What the table says of op k, in widths. -/
theorem row_facts (k : Nat) (h : k < 28) : layN (opShape k) = ((2 ^ wideN k - 1 : Nat) : Int) ∧ layM (opShape k) = ((2 ^ wideM k - 1 : Nat) : Int) ∧ layHigh (opShape k) - layLow (opShape k) = ((2 ^ wideI k - 1 : Nat) : Int)
    ∧ (wideN k = 0 ∨ wideN k = 4) ∧ (wideM k = 0 ∨ wideM k = 4) ∧ (wideI k = 0 ∨ wideI k = 8 ∨ wideI k = 12) ∧ layLow (opShape k) ≤ 0 ∧ 0 ≤ layHigh (opShape k) ∧ 0 ≤ opBits k ∧ opBits k < 65536 := by
  have : ∀ j : Fin 28, layN (opShape j.val) = ((2 ^ wideN j.val - 1 : Nat) : Int) ∧ layM (opShape j.val) = ((2 ^ wideM j.val - 1 : Nat) : Int) ∧ layHigh (opShape j.val) - layLow (opShape j.val) = ((2 ^ wideI j.val - 1 : Nat) : Int)
    ∧ (wideN j.val = 0 ∨ wideN j.val = 4) ∧ (wideM j.val = 0 ∨ wideM j.val = 4) ∧ (wideI j.val = 0 ∨ wideI j.val = 8 ∨ wideI j.val = 12) ∧ layLow (opShape j.val) ≤ 0 ∧ 0 ≤ layHigh (opShape j.val) ∧ 0 ≤ opBits j.val ∧ opBits j.val < 65536 := by decide +kernel
  exact this ⟨k, h⟩

theorem ofInt_toNat (z : Int) : (BitVec.ofInt 64 z).toNat = (z % 18446744073709551616).toNat := by
  rw [BitVec.toNat_ofInt]
  rfl

/-- The lowest bits of a number. -/
theorem and_low (z : Int) (d : Nat) (hd : d = 0 ∨ d = 8 ∨ d = 12) : bits .and .i64 z ((2 ^ d - 1 : Nat) : Int) = z % ((2 ^ d : Nat) : Int) := by
  show IntKind.i64.wrap ((BitVec.ofInt IntKind.i64.bits z &&& BitVec.ofInt IntKind.i64.bits ((2 ^ d - 1 : Nat) : Int)).toNat : Int) = _
  have : (BitVec.ofInt IntKind.i64.bits z &&& BitVec.ofInt IntKind.i64.bits ((2 ^ d - 1 : Nat) : Int)).toNat = (z % 18446744073709551616).toNat % 2 ^ d := by
    rw [ofInt_nat]
    show (BitVec.ofInt 64 z &&& BitVec.ofNat 64 (2 ^ d - 1)).toNat = _
    rw [BitVec.toNat_and, ofInt_toNat, BitVec.toNat_ofNat, Nat.mod_eq_of_lt (a := 2 ^ d - 1) (by rcases hd with rfl | rfl | rfl <;> decide), Nat.and_two_pow_sub_one_eq_mod]
  rw [this, IntKind.wrap_i64]
  rcases hd with rfl | rfl | rfl
  · simp
  · simp; omega
  · simp; omega

theorem encI_nat (k n m : Nat) (imm : Int) (hk : k < 28) (hn : n < 16) (hm : m < 16) : encI k n m imm = (encN k n m (imm % ((2 ^ wideI k : Nat) : Int)).toNat : Int) := by
  obtain ⟨e1, e2, e3, w1, w2, w3, l0, h0, b0, b1⟩ := row_facts k hk
  unfold encI encN
  have hz : 0 ≤ imm % ((2 ^ wideI k : Nat) : Int) ∧ imm % ((2 ^ wideI k : Nat) : Int) < 4096 := by
    rcases w3 with h | h | h <;> rw [h] <;> simp <;> omega
  rw [e3, and_low imm _ w3]
  obtain ⟨i, hi⟩ := Int.eq_ofNat_of_zero_le hz.1
  rw [hi, Int.toNat_natCast]
  obtain ⟨b, hb⟩ := Int.eq_ofNat_of_zero_le b0
  rw [hb, Int.toNat_natCast]
  have a1 : IntKind.i64.wrap ((n : Int) * 256) = ((n * 256 : Nat) : Int) := by rw [IntKind.wrap_i64]; omega
  have a2 : IntKind.i64.wrap ((m : Int) * 16) = ((m * 16 : Nat) : Int) := by rw [IntKind.wrap_i64]; omega
  have c1 : b ||| n * 256 < 2 ^ 16 := Nat.or_lt_two_pow (by omega) (by omega)
  have c2 : b ||| n * 256 ||| m * 16 < 2 ^ 16 := Nat.or_lt_two_pow c1 (by omega)
  rw [a1, a2, or_nat b (n * 256) (by omega) (by omega), or_nat _ (m * 16) (by omega) (by omega), or_nat _ i (by omega) (by omega)]
  rfl

theorem rdV_nat (k x : Nat) (hk : k < 28) (hx : x < 65536) : rdV (layN (opShape k)) (layM (opShape k)) (layLow (opShape k)) (layHigh (opShape k)) k x =
    .agg #[.int .i64 k, .int .i64 ((Nat.land (x / 256) (2 ^ wideN k - 1) : Nat) : Int), .int .i64 ((Nat.land (x / 16) (2 ^ wideM k - 1) : Nat) : Int), .int .i64 (if layHigh (opShape k) < ((x % 2 ^ wideI k : Nat) : Int) then ((x % 2 ^ wideI k : Nat) : Int) - ((2 ^ wideI k : Nat) : Int) else ((x % 2 ^ wideI k : Nat) : Int))] := by
  obtain ⟨e1, e2, e3, w1, w2, w3, l0, h0, b0, b1⟩ := row_facts k hk
  have hl := lay_bd (opShape k)
  unfold rdV rdImm
  have p1 : 2 ^ wideN k - 1 < 16 := by rcases w1 with h | h <;> rw [h] <;> decide
  have p2 : 2 ^ wideM k - 1 < 16 := by rcases w2 with h | h <;> rw [h] <;> decide
  have p3 : 0 < 2 ^ wideI k := Nat.two_pow_pos _
  have p4 : 2 ^ wideI k ≤ 4096 := by rcases w3 with h | h | h <;> rw [h] <;> decide
  have e4 : (x : Int) % ((2 ^ wideI k : Nat) : Int) = ((x % 2 ^ wideI k : Nat) : Int) := by omega
  have q1 : ((x : Int) / 256) = ((x / 256 : Nat) : Int) := by omega
  have q2 : ((x : Int) / 16) = ((x / 16 : Nat) : Int) := by omega
  rw [e1, e2, e3, and_low _ _ w3, e4, q1, q2, and_nat _ _ (by omega) (by omega), and_nat _ _ (by omega) (by omega)]
  have q3 : x % 2 ^ wideI k < 2 ^ wideI k := Nat.mod_lt _ p3
  have q4 : wrap64 (((x % 2 ^ wideI k : Nat) : Int) - (((2 ^ wideI k - 1 : Nat) : Int) + 1)) = ((x % 2 ^ wideI k : Nat) : Int) - ((2 ^ wideI k : Nat) : Int) := by
    unfold wrap64
    omega
  rw [q4]
  rfl

theorem within_nat {x : Nat} (hx : x < 65536) : withinB x 0 65535 = true := by simp [withinB]; omega

/-- An instruction that may be comes back from its half word. -/
theorem turn1 {op n m imm : Int} (h : wrongI op n m imm = 0) : decV (encI op n m imm) = .agg #[.int .i64 op, .int .i64 n, .int .i64 m, .int .i64 imm] ∧ decE (encI op n m imm) = 0 := by
  obtain ⟨h1, h2, h3, h4, h5, h6, h7, h8⟩ := wrongI_zero h
  obtain ⟨k, rfl⟩ := Int.eq_ofNat_of_zero_le (show 0 ≤ op by omega)
  obtain ⟨a, rfl⟩ := Int.eq_ofNat_of_zero_le h3
  obtain ⟨b, rfl⟩ := Int.eq_ofNat_of_zero_le h5
  have hk : k < 28 := by omega
  have hk0 : k ≠ 0 := by omega
  obtain ⟨e1, e2, e3, w1, w2, w3, l0, l1, b0, b1⟩ := row_facts k hk
  have pN := Nat.two_pow_pos (wideN k)
  have pM := Nat.two_pow_pos (wideM k)
  have pI := Nat.two_pow_pos (wideI k)
  have qN : 2 ^ wideN k ≤ 16 := by rcases w1 with h | h <;> rw [h] <;> decide
  have qM : 2 ^ wideM k ≤ 16 := by rcases w2 with h | h <;> rw [h] <;> decide
  have ha : a < 2 ^ wideN k := by omega
  have hb : b < 2 ^ wideM k := by omega
  rw [encI_nat k a b imm hk (by omega) (by omega)]
  have hi : (imm % ((2 ^ wideI k : Nat) : Int)).toNat < 2 ^ wideI k := by
    have := Int.emod_lt_of_pos imm (show (0 : Int) < ((2 ^ wideI k : Nat) : Int) by omega)
    have := Int.emod_nonneg imm (show ((2 ^ wideI k : Nat) : Int) ≠ 0 by omega)
    omega
  have hback : (if layHigh (opShape k) < (((imm % ((2 ^ wideI k : Nat) : Int)).toNat : Nat) : Int) then (((imm % ((2 ^ wideI k : Nat) : Int)).toNat : Nat) : Int) - ((2 ^ wideI k : Nat) : Int) else (((imm % ((2 ^ wideI k : Nat) : Int)).toNat : Nat) : Int)) = imm := by
    by_cases hneg : imm < 0
    · have e : imm % ((2 ^ wideI k : Nat) : Int) = imm + ((2 ^ wideI k : Nat) : Int) := by
        rw [← Int.add_emod_right]
        exact Int.emod_eq_of_lt (by omega) (by omega)
      rw [e, if_pos (by omega)]
      omega
    · have e : imm % ((2 ^ wideI k : Nat) : Int) = imm := Int.emod_eq_of_lt (by omega) (by omega)
      rw [e, if_neg (by omega)]
      omega
  generalize (imm % ((2 ^ wideI k : Nat) : Int)).toNat = i at hi hback ⊢
  have hc := chk1_all
  rw [List.all_eq_true] at hc
  have hc1 := hc k (by simpa using hk)
  have hc2 : chk1 k = true := by
    simp only [Bool.or_eq_true] at hc1
    rcases hc1 with h | h
    · exact absurd (Nat.beq_eq ▸ h : k = 0) hk0
    · exact h
  have t1 := allB_spec _ _ _ hc2 a (Nat.zero_le _) (by omega)
  have t2 := allB_spec _ _ _ t1 b (Nat.zero_le _) (by omega)
  have t3 := allB_spec _ _ _ t2 i (Nat.zero_le _) (by omega)
  simp only [Bool.and_eq_true, Nat.beq_eq, Nat.ble_eq] at t3
  obtain ⟨⟨⟨⟨d1, d2⟩, d3⟩, d4⟩, d5⟩ := t3
  generalize encN k a b i = x at *
  have hx : x < 65536 := by omega
  have hdec := decFrom_nat x hx
  rw [d1] at hdec
  have hv : decV x = rdV (layN (opShape k)) (layM (opShape k)) (layLow (opShape k)) (layHigh (opShape k)) k x ∧ decE x = 0 := by
    unfold decV decE
    rw [hdec, if_pos ⟨within_nat hx, by omega⟩, if_pos (within_nat hx), if_neg (by omega)]
    exact ⟨rfl, rfl⟩
  refine ⟨?_, hv.2⟩
  rw [hv.1, rdV_nat k x hk hx, d2, d3]
  have d4' : x % 2 ^ wideI k = i := by
    rw [← Nat.and_two_pow_sub_one_eq_mod]
    exact d4
  rw [d4', hback]

end Go.Proofs.YtagkmgdjkailkaaGreatDoor.Isa
