/- There, and back: what Encode writes Decode reads, and the other way round. -/
import Derived.Test.YtabepbaldadmgaaDoorPut3
namespace Go.Proofs.YtabepbaldadmgaaDoor.Isa
open Go.RowKit

theorem hit_nat (x k m b : Nat) (hx : x < 65536) (hk : knownB k = true) (hm : maskOf k = m) (hb : opBits k = b) (hm' : m < 65536) :
    decHit x k = Nat.beq (Nat.land x (18446744073709551615 - m)) b := by
  unfold decHit
  rw [hk, hm, hb, andNot_nat x m (by omega) (by omega), Bool.true_and, Bool.eq_iff_iff]
  show (((x &&& (18446744073709551615 - m) : Nat) : Int) == (b : Int)) = true ↔ Nat.beq (x &&& (18446744073709551615 - m)) b = true
  rw [beq_iff_eq, Nat.beq_eq]
  omega

theorem dec_step (x f k : Nat) (t : Nat) (c : Bool) (hc : decHit x k = c) (h : decFrom x f (k + 1) = (t : Int)) : decFrom x (f + 1) k = ((bif c then k else t : Nat) : Int) := by
  rw [decFrom, hc, h]
  cases c <;> simp

set_option maxRecDepth 100000 in
theorem decFrom_nat (x : Nat) (hx : x < 65536) : decFrom x 28 0 = (decN x : Int) := by
  have e28 : decFrom x 0 28 = ((0 : Nat) : Int) := rfl
  have e27 := dec_step x 0 27 _ _ (hit_nat x 27 255 49920 hx (by decide +kernel) (by decide +kernel) (by decide +kernel) (by decide)) e28
  have e26 := dec_step x 1 26 _ _ (hit_nat x 26 4080 24578 hx (by decide +kernel) (by decide +kernel) (by decide +kernel) (by decide)) e27
  have e25 := dec_step x 2 25 _ _ (hit_nat x 25 4080 8194 hx (by decide +kernel) (by decide +kernel) (by decide +kernel) (by decide)) e26
  have e24 := dec_step x 3 24 _ _ (hit_nat x 24 4095 53248 hx (by decide +kernel) (by decide +kernel) (by decide +kernel) (by decide)) e25
  have e23 := dec_step x 4 23 _ _ (hit_nat x 23 4095 36864 hx (by decide +kernel) (by decide +kernel) (by decide +kernel) (by decide)) e24
  have e22 := dec_step x 5 22 _ _ (hit_nat x 22 3840 16395 hx (by decide +kernel) (by decide +kernel) (by decide +kernel) (by decide)) e23
  have e21 := dec_step x 6 21 _ _ (hit_nat x 21 3840 16427 hx (by decide +kernel) (by decide +kernel) (by decide +kernel) (by decide)) e22
  have e20 := dec_step x 7 20 _ _ (hit_nat x 20 4095 45056 hx (by decide +kernel) (by decide +kernel) (by decide +kernel) (by decide)) e21
  have e19 := dec_step x 8 19 _ _ (hit_nat x 19 4095 40960 hx (by decide +kernel) (by decide +kernel) (by decide +kernel) (by decide)) e20
  have e18 := dec_step x 9 18 _ _ (hit_nat x 18 255 35584 hx (by decide +kernel) (by decide +kernel) (by decide +kernel) (by decide)) e19
  have e17 := dec_step x 10 17 _ _ (hit_nat x 17 255 35072 hx (by decide +kernel) (by decide +kernel) (by decide +kernel) (by decide)) e18
  have e16 := dec_step x 11 16 _ _ (hit_nat x 16 3840 16400 hx (by decide +kernel) (by decide +kernel) (by decide +kernel) (by decide)) e17
  have e15 := dec_step x 12 15 _ _ (hit_nat x 15 3840 16385 hx (by decide +kernel) (by decide +kernel) (by decide +kernel) (by decide)) e16
  have e14 := dec_step x 13 14 _ _ (hit_nat x 14 3840 16384 hx (by decide +kernel) (by decide +kernel) (by decide +kernel) (by decide)) e15
  have e13 := dec_step x 14 13 _ _ (hit_nat x 13 4080 12295 hx (by decide +kernel) (by decide +kernel) (by decide +kernel) (by decide)) e14
  have e12 := dec_step x 15 12 _ _ (hit_nat x 12 4080 12288 hx (by decide +kernel) (by decide +kernel) (by decide +kernel) (by decide)) e13
  have e11 := dec_step x 16 11 _ _ (hit_nat x 11 4080 8200 hx (by decide +kernel) (by decide +kernel) (by decide +kernel) (by decide)) e12
  have e10 := dec_step x 17 10 _ _ (hit_nat x 10 4080 8202 hx (by decide +kernel) (by decide +kernel) (by decide +kernel) (by decide)) e11
  have e9 := dec_step x 18 9 _ _ (hit_nat x 9 4080 8203 hx (by decide +kernel) (by decide +kernel) (by decide +kernel) (by decide)) e10
  have e8 := dec_step x 19 8 _ _ (hit_nat x 8 4080 8201 hx (by decide +kernel) (by decide +kernel) (by decide +kernel) (by decide)) e9
  have e7 := dec_step x 20 7 _ _ (hit_nat x 7 4080 12296 hx (by decide +kernel) (by decide +kernel) (by decide +kernel) (by decide)) e8
  have e6 := dec_step x 21 6 _ _ (hit_nat x 6 4080 12300 hx (by decide +kernel) (by decide +kernel) (by decide +kernel) (by decide)) e7
  have e5 := dec_step x 22 5 _ _ (hit_nat x 5 4080 24579 hx (by decide +kernel) (by decide +kernel) (by decide +kernel) (by decide)) e6
  have e4 := dec_step x 23 4 _ _ (hit_nat x 4 4095 28672 hx (by decide +kernel) (by decide +kernel) (by decide +kernel) (by decide)) e5
  have e3 := dec_step x 24 3 _ _ (hit_nat x 3 4095 57344 hx (by decide +kernel) (by decide +kernel) (by decide +kernel) (by decide)) e4
  have e2 := dec_step x 25 2 _ _ (hit_nat x 2 0 11 hx (by decide +kernel) (by decide +kernel) (by decide +kernel) (by decide)) e3
  have e1 := dec_step x 26 1 _ _ (hit_nat x 1 0 9 hx (by decide +kernel) (by decide +kernel) (by decide +kernel) (by decide)) e2
  have e0 : decFrom x 28 0 = decFrom x 27 1 := by
    rw [decFrom, if_neg (by rw [decHit, show knownB ((0 : Nat) : Int) = false by decide +kernel]; simp)]
  rw [e0, e1]
  rfl

/-- What the table says of op k, in widths. -/
theorem row_facts (k : Nat) (h : k < 28) : layN (opShape k) = ((2 ^ wideN k - 1 : Nat) : Int) ∧ layM (opShape k) = ((2 ^ wideM k - 1 : Nat) : Int) ∧ layHigh (opShape k) - layLow (opShape k) = ((2 ^ wideI k - 1 : Nat) : Int)
    ∧ (wideN k = 0 ∨ wideN k = 4) ∧ (wideM k = 0 ∨ wideM k = 4) ∧ (wideI k = 0 ∨ wideI k = 8 ∨ wideI k = 12) ∧ layLow (opShape k) ≤ 0 ∧ 0 ≤ layHigh (opShape k) ∧ 0 ≤ opBits k ∧ opBits k < 65536 := by
  have : ∀ j : Fin 28, layN (opShape j.val) = ((2 ^ wideN j.val - 1 : Nat) : Int) ∧ layM (opShape j.val) = ((2 ^ wideM j.val - 1 : Nat) : Int) ∧ layHigh (opShape j.val) - layLow (opShape j.val) = ((2 ^ wideI j.val - 1 : Nat) : Int)
    ∧ (wideN j.val = 0 ∨ wideN j.val = 4) ∧ (wideM j.val = 0 ∨ wideM j.val = 4) ∧ (wideI j.val = 0 ∨ wideI j.val = 8 ∨ wideI j.val = 12) ∧ layLow (opShape j.val) ≤ 0 ∧ 0 ≤ layHigh (opShape j.val) ∧ 0 ≤ opBits j.val ∧ opBits j.val < 65536 := by decide +kernel
  exact this ⟨k, h⟩

theorem ofInt_toNat (z : Int) : (BitVec.ofInt 64 z).toNat = (z % 18446744073709551616).toNat := by
  rw [BitVec.toNat_ofInt]
  rfl

/-- The lowest bits of a number. -/
theorem and_low (z : Int) (d : Nat) (hd : d = 0 ∨ d = 8 ∨ d = 12) : bits .and .i64 z ((2 ^ d - 1 : Nat) : Int) = z % ((2 ^ d : Nat) : Int) := by
  show IntKind.i64.wrap ((BitVec.ofInt IntKind.i64.bits z &&& BitVec.ofInt IntKind.i64.bits ((2 ^ d - 1 : Nat) : Int)).toNat : Int) = _
  have : (BitVec.ofInt IntKind.i64.bits z &&& BitVec.ofInt IntKind.i64.bits ((2 ^ d - 1 : Nat) : Int)).toNat = (z % 18446744073709551616).toNat % 2 ^ d := by
    rw [ofInt_nat]
    show (BitVec.ofInt 64 z &&& BitVec.ofNat 64 (2 ^ d - 1)).toNat = _
    rw [BitVec.toNat_and, ofInt_toNat, BitVec.toNat_ofNat, Nat.mod_eq_of_lt (a := 2 ^ d - 1) (by rcases hd with rfl | rfl | rfl <;> decide), Nat.and_two_pow_sub_one_eq_mod]
  rw [this, IntKind.wrap_i64]
  rcases hd with rfl | rfl | rfl
  · simp
  · simp; omega
  · simp; omega

theorem encI_nat (k n m : Nat) (imm : Int) (hk : k < 28) (hn : n < 16) (hm : m < 16) : encI k n m imm = (encN k n m (imm % ((2 ^ wideI k : Nat) : Int)).toNat : Int) := by
  obtain ⟨e1, e2, e3, w1, w2, w3, l0, h0, b0, b1⟩ := row_facts k hk
  unfold encI encN
  have hz : 0 ≤ imm % ((2 ^ wideI k : Nat) : Int) ∧ imm % ((2 ^ wideI k : Nat) : Int) < 4096 := by
    rcases w3 with h | h | h <;> rw [h] <;> simp <;> omega
  rw [e3, and_low imm _ w3]
  obtain ⟨i, hi⟩ := Int.eq_ofNat_of_zero_le hz.1
  rw [hi, Int.toNat_natCast]
  obtain ⟨b, hb⟩ := Int.eq_ofNat_of_zero_le b0
  rw [hb, Int.toNat_natCast]
  have a1 : IntKind.i64.wrap ((n : Int) * 256) = ((n * 256 : Nat) : Int) := by rw [IntKind.wrap_i64]; omega
  have a2 : IntKind.i64.wrap ((m : Int) * 16) = ((m * 16 : Nat) : Int) := by rw [IntKind.wrap_i64]; omega
  have c1 : b ||| n * 256 < 2 ^ 16 := Nat.or_lt_two_pow (by omega) (by omega)
  have c2 : b ||| n * 256 ||| m * 16 < 2 ^ 16 := Nat.or_lt_two_pow c1 (by omega)
  rw [a1, a2, or_nat b (n * 256) (by omega) (by omega), or_nat _ (m * 16) (by omega) (by omega), or_nat _ i (by omega) (by omega)]
  rfl

theorem rdV_nat (k x : Nat) (hk : k < 28) (hx : x < 65536) : rdV (layN (opShape k)) (layM (opShape k)) (layLow (opShape k)) (layHigh (opShape k)) k x =
    .agg #[.int .i64 k, .int .i64 ((Nat.land (x / 256) (2 ^ wideN k - 1) : Nat) : Int), .int .i64 ((Nat.land (x / 16) (2 ^ wideM k - 1) : Nat) : Int), .int .i64 (if layHigh (opShape k) < ((x % 2 ^ wideI k : Nat) : Int) then ((x % 2 ^ wideI k : Nat) : Int) - ((2 ^ wideI k : Nat) : Int) else ((x % 2 ^ wideI k : Nat) : Int))] := by
  obtain ⟨e1, e2, e3, w1, w2, w3, l0, h0, b0, b1⟩ := row_facts k hk
  have hl := lay_bd (opShape k)
  unfold rdV rdImm
  have p1 : 2 ^ wideN k - 1 < 16 := by rcases w1 with h | h <;> rw [h] <;> decide
  have p2 : 2 ^ wideM k - 1 < 16 := by rcases w2 with h | h <;> rw [h] <;> decide
  have p3 : 0 < 2 ^ wideI k := Nat.two_pow_pos _
  have p4 : 2 ^ wideI k ≤ 4096 := by rcases w3 with h | h | h <;> rw [h] <;> decide
  have e4 : (x : Int) % ((2 ^ wideI k : Nat) : Int) = ((x % 2 ^ wideI k : Nat) : Int) := by omega
  have q1 : ((x : Int) / 256) = ((x / 256 : Nat) : Int) := by omega
  have q2 : ((x : Int) / 16) = ((x / 16 : Nat) : Int) := by omega
  rw [e1, e2, e3, and_low _ _ w3, e4, q1, q2, and_nat _ _ (by omega) (by omega), and_nat _ _ (by omega) (by omega)]
  have q3 : x % 2 ^ wideI k < 2 ^ wideI k := Nat.mod_lt _ p3
  have q4 : wrap64 (((x % 2 ^ wideI k : Nat) : Int) - (((2 ^ wideI k - 1 : Nat) : Int) + 1)) = ((x % 2 ^ wideI k : Nat) : Int) - ((2 ^ wideI k : Nat) : Int) := by
    unfold wrap64
    omega
  rw [q4]
  rfl

theorem within_nat {x : Nat} (hx : x < 65536) : withinB x 0 65535 = true := by simp [withinB]; omega

/-- An instruction that may be comes back from its half word. -/
theorem turn1 {op n m imm : Int} (h : wrongI op n m imm = 0) : decV (encI op n m imm) = .agg #[.int .i64 op, .int .i64 n, .int .i64 m, .int .i64 imm] ∧ decE (encI op n m imm) = 0 := by
  obtain ⟨h1, h2, h3, h4, h5, h6, h7, h8⟩ := wrongI_zero h
  obtain ⟨k, rfl⟩ := Int.eq_ofNat_of_zero_le (show 0 ≤ op by omega)
  obtain ⟨a, rfl⟩ := Int.eq_ofNat_of_zero_le h3
  obtain ⟨b, rfl⟩ := Int.eq_ofNat_of_zero_le h5
  have hk : k < 28 := by omega
  have hk0 : k ≠ 0 := by omega
  obtain ⟨e1, e2, e3, w1, w2, w3, l0, l1, b0, b1⟩ := row_facts k hk
  have pN := Nat.two_pow_pos (wideN k)
  have pM := Nat.two_pow_pos (wideM k)
  have pI := Nat.two_pow_pos (wideI k)
  have qN : 2 ^ wideN k ≤ 16 := by rcases w1 with h | h <;> rw [h] <;> decide
  have qM : 2 ^ wideM k ≤ 16 := by rcases w2 with h | h <;> rw [h] <;> decide
  have ha : a < 2 ^ wideN k := by omega
  have hb : b < 2 ^ wideM k := by omega
  rw [encI_nat k a b imm hk (by omega) (by omega)]
  have hi : (imm % ((2 ^ wideI k : Nat) : Int)).toNat < 2 ^ wideI k := by
    have := Int.emod_lt_of_pos imm (show (0 : Int) < ((2 ^ wideI k : Nat) : Int) by omega)
    have := Int.emod_nonneg imm (show ((2 ^ wideI k : Nat) : Int) ≠ 0 by omega)
    omega
  have hback : (if layHigh (opShape k) < (((imm % ((2 ^ wideI k : Nat) : Int)).toNat : Nat) : Int) then (((imm % ((2 ^ wideI k : Nat) : Int)).toNat : Nat) : Int) - ((2 ^ wideI k : Nat) : Int) else (((imm % ((2 ^ wideI k : Nat) : Int)).toNat : Nat) : Int)) = imm := by
    by_cases hneg : imm < 0
    · have e : imm % ((2 ^ wideI k : Nat) : Int) = imm + ((2 ^ wideI k : Nat) : Int) := by
        rw [← Int.add_emod_right]
        exact Int.emod_eq_of_lt (by omega) (by omega)
      rw [e, if_pos (by omega)]
      omega
    · have e : imm % ((2 ^ wideI k : Nat) : Int) = imm := Int.emod_eq_of_lt (by omega) (by omega)
      rw [e, if_neg (by omega)]
      omega
  generalize (imm % ((2 ^ wideI k : Nat) : Int)).toNat = i at hi hback ⊢
  have hc := chk1_all
  rw [List.all_eq_true] at hc
  have hc1 := hc k (by simpa using hk)
  have hc2 : chk1 k = true := by
    simp only [Bool.or_eq_true] at hc1
    rcases hc1 with h | h
    · exact absurd (Nat.beq_eq ▸ h : k = 0) hk0
    · exact h
  have t1 := allB_spec _ _ _ hc2 a (Nat.zero_le _) (by omega)
  have t2 := allB_spec _ _ _ t1 b (Nat.zero_le _) (by omega)
  have t3 := allB_spec _ _ _ t2 i (Nat.zero_le _) (by omega)
  simp only [Bool.and_eq_true, Nat.beq_eq, Nat.ble_eq] at t3
  obtain ⟨⟨⟨⟨d1, d2⟩, d3⟩, d4⟩, d5⟩ := t3
  generalize encN k a b i = x at *
  have hx : x < 65536 := by omega
  have hdec := decFrom_nat x hx
  rw [d1] at hdec
  have hv : decV x = rdV (layN (opShape k)) (layM (opShape k)) (layLow (opShape k)) (layHigh (opShape k)) k x ∧ decE x = 0 := by
    unfold decV decE
    rw [hdec, if_pos ⟨within_nat hx, by omega⟩, if_pos (within_nat hx), if_neg (by omega)]
    exact ⟨rfl, rfl⟩
  refine ⟨?_, hv.2⟩
  rw [hv.1, rdV_nat k x hk hx, d2, d3]
  have d4' : x % 2 ^ wideI k = i := by
    rw [← Nat.and_two_pow_sub_one_eq_mod]
    exact d4
  rw [d4', hback]

/-- A half word that is an instruction is its instruction's. -/
theorem turn2 {x : Int} (h : decE x = 0) : ∃ op n m imm : Int, decV x = .agg #[.int .i64 op, .int .i64 n, .int .i64 m, .int .i64 imm] ∧ wrongI op n m imm = 0 ∧ encI op n m imm = x := by
  have hw : withinB x 0 65535 = true := by
    unfold decE at h
    by_cases hw : withinB x 0 65535 = true
    · exact hw
    · rw [if_neg hw] at h; simp at h
  have hw' := hw
  simp [withinB] at hw'
  obtain ⟨y, rfl⟩ := Int.eq_ofNat_of_zero_le hw'.1
  have hx : y < 65536 := by omega
  have hdec := decFrom_nat y hx
  have hk0 : decN y ≠ 0 := by
    intro h0
    unfold decE at h
    rw [if_pos hw, hdec, h0] at h
    simp at h
  have hc := allB_spec _ _ _ chk2_all y (Nat.zero_le _) (by simpa using hx)
  unfold chk2 at hc
  simp only [Bool.or_eq_true, Bool.and_eq_true, Nat.beq_eq, Nat.ble_eq] at hc
  have hc' := hc.resolve_left hk0
  generalize decN y = k at *
  obtain ⟨d1, d2⟩ := hc'
  have hk : k < 28 := by omega
  obtain ⟨e1, e2, e3, w1, w2, w3, l0, l1, b0, b1⟩ := row_facts k hk
  have hv : decV y = rdV (layN (opShape k)) (layM (opShape k)) (layLow (opShape k)) (layHigh (opShape k)) k y := by
    unfold decV
    rw [hdec, if_pos ⟨hw, by omega⟩]
  rw [hv, rdV_nat k y hk hx]
  have pN := Nat.two_pow_pos (wideN k)
  have pM := Nat.two_pow_pos (wideM k)
  have pI := Nat.two_pow_pos (wideI k)
  have qN : 2 ^ wideN k ≤ 16 := by rcases w1 with h | h <;> rw [h] <;> decide
  have qM : 2 ^ wideM k ≤ 16 := by rcases w2 with h | h <;> rw [h] <;> decide
  have m1 : Nat.land (y / 256) (2 ^ wideN k - 1) ≤ 2 ^ wideN k - 1 := Nat.and_le_right
  have m2 : Nat.land (y / 16) (2 ^ wideM k - 1) ≤ 2 ^ wideM k - 1 := Nat.and_le_right
  have m3 : Nat.land y (2 ^ wideI k - 1) = y % 2 ^ wideI k := Nat.and_two_pow_sub_one_eq_mod _ _
  have m4 : y % 2 ^ wideI k < 2 ^ wideI k := Nat.mod_lt _ pI
  rw [m3] at d1
  generalize Nat.land (y / 256) (2 ^ wideN k - 1) = a at *
  generalize Nat.land (y / 16) (2 ^ wideM k - 1) = b at *
  generalize y % 2 ^ wideI k = i at *
  refine ⟨_, _, _, _, rfl, ?_, ?_⟩
  · unfold wrongI
    rw [if_pos (by simp [knownB, withinB]; omega), if_pos]
    refine ⟨by simp [withinB]; omega, by simp [withinB]; omega, ?_⟩
    simp only [withinB, decide_eq_true_eq]
    split <;> omega
  · rw [encI_nat k a b _ hk (by omega) (by omega)]
    have : ((if layHigh (opShape k) < (i : Int) then (i : Int) - ((2 ^ wideI k : Nat) : Int) else (i : Int)) % ((2 ^ wideI k : Nat) : Int)).toNat = i := by
      split
      · rw [Int.sub_emod_right, Int.emod_eq_of_lt (by omega) (by omega)]; rfl
      · rw [Int.emod_eq_of_lt (by omega) (by omega)]; rfl
    rw [this, d1]

theorem turn3 {x : Int} (h : decE x ≠ 0) : decV x = .agg #[.int .i64 0, .int .i64 0, .int .i64 0, .int .i64 0] := by
  unfold decE at h
  unfold decV
  by_cases hw : withinB x 0 65535 = true
  · rw [if_pos hw] at h
    by_cases h0 : decFrom x 28 0 = 0
    · rw [if_neg (by simp [h0])]
    · rw [if_neg h0] at h; simp at h
  · rw [if_neg (by simp [hw])]

end Go.Proofs.YtabepbaldadmgaaDoor.Isa
