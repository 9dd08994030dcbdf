/- The contract of the document's own Encode. -/
import Derived.Test.YtnloooiimpdabaaDoorRefX
import Derived.Test.YtnloooiimpdabaaDoorTurns
namespace Go.Proofs.YtnloooiimpdabaaDoor
open Go.RowKit

/-- Bit by bit from the lowest one on: what is left of the text, the registers and the number, what is written, the next bit's worth. -/
def encRun : List UInt8 → Int → Int → Int → Int → Int → Int
  | [], _, _, _, w, _ => w
  | c :: cs, n, m, v, w, p =>
    if c = 49 then encRun cs n m v (w + p) (2 * p)
    else if c = 110 then encRun cs (n / 2) m v (w + n % 2 * p) (2 * p)
    else if c = 109 then encRun cs n (m / 2) v (w + m % 2 * p) (2 * p)
    else if c = 105 then encRun cs n m (v / 2) (w + v % 2 * p) (2 * p)
    else encRun cs n m v w (2 * p)

/-- The text from its end. -/
def revBits (k : Int) : List UInt8 := (refBits k).data.toList.reverse

theorem and_one (z : Int) : bits .and .i64 z 1 = z % 2 := by
  show IntKind.i64.wrap ((BitVec.ofInt IntKind.i64.bits z &&& BitVec.ofInt IntKind.i64.bits 1).toNat : Int) = _
  have : (BitVec.ofInt IntKind.i64.bits z &&& BitVec.ofInt IntKind.i64.bits 1).toNat = (z % 18446744073709551616).toNat % 2 := by
    show (BitVec.ofInt 64 z &&& BitVec.ofNat 64 1).toNat = _
    rw [BitVec.toNat_and, ofInt_toNat]
    show (z % 18446744073709551616).toNat &&& 1 = _
    rw [Nat.and_one_is_mod]
  rw [this, IntKind.wrap_i64]
  omega

theorem field26 (a : ByteArray) (b : Int) (c : ByteArray) (w : World) : (Instr.field 26 (.agg #[.string a, .int .i64 b, .string c]) 2).run Tryd.prog w = .ok (.string c) w := by kernel_rfl

theorem index9 (s : ByteArray) (k : Nat) (i : Int) (hi : i = (k : Int)) (hk : k < s.size) (w : World) : (Instr.index 9 (.string s) (.int .i64 i)).run Tryd.prog w = .ok (.int .u8 (s[k].toNat : Int)) w := by
  subst hi
  simp [Instr.index, run_underlying Tryd.underlying9, asIntOf, hk]

theorem rev_drop (s : ByteArray) (k : Nat) (h16 : s.size = 16) (hk : k < 16) : s.data.toList.reverse.drop k = s[15 - k] :: s.data.toList.reverse.drop (k + 1) := by
  have hl : s.data.toList.length = 16 := h16
  rw [List.drop_eq_getElem_cons (by simp [hl]; omega)]
  congr 1
  rw [List.getElem_reverse]
  have : s.data.toList.length - 1 - k = 15 - k := by omega
  simp only [this]
  rfl

theorem rEnc_wrong (op n m imm : Int) (w : World) (hw : (wrongI op n m imm != 0) = true) :
    Calls Tryd.prog 16 #[.agg #[.int .i64 op, .int .i64 n, .int .i64 m, .int .i64 imm]] w fun e w' => e = .returned (.tuple #[.int .i64 0, .int .i64 (wrongI op n m imm)]) ∧ Below w.heap.size w w' := by
  go_enter Tryd.func16, Tryd.ntmps16
  go_wp2_with fail
  refine (rWrong_any _ _ _ _ _).mono ?_
  rintro e w1 ⟨rfl, hb1⟩
  have hB1 := ((Below.refl w.heap.size w).alloc (Nat.le_refl _) _).trans (hb1.mono (by simp))
  clear hb1
  go_wp2
  go_ret2
  exact ⟨rfl, hB1⟩

set_option maxHeartbeats 1000000 in
theorem rEnc_ok (op n m imm : Int) (w : World) (hw : wrongI op n m imm = 0) (hsz : (refBits op).size = 16) :
    Calls Tryd.prog 16 #[.agg #[.int .i64 op, .int .i64 n, .int .i64 m, .int .i64 imm]] w fun e w' => e = .returned (.tuple #[.int .i64 (encRun (revBits op) n m imm 0 1), .int .i64 0]) ∧ Below w.heap.size w w' := by
  have hop := wrongI_zero hw
  have hk : knownB op = true := by simp [knownB, withinB]; omega
  have HI : Hid (refTxt op = refBits op) := by simp [Hid, refTxt, hk]
  have HW : Hid (wrongI op n m imm = 0) := hw
  have hfld := field26
  clear hw hop hk
  go_enter Tryd.func16, Tryd.ntmps16
  go_wp2_with fail
  refine (rWrong_any _ _ _ _ _).mono ?_
  rintro e w1 ⟨rfl, hb1⟩
  rw [HW.out]
  have hS := keepBox hb1 (startBox' w (.int .i64 op) (.int .i64 n) (.int .i64 m) (.int .i64 imm))
  clear hb1
  go_wp2_with fail
  go_region_held3 (fun w' => w.heap.size < w'.heap.size ∧ w'.cell? ⟨w.heap.size, 0, none⟩ = some (.int .i64 op) ∧ w'.cell? ⟨w.heap.size, 1, none⟩ = some (.int .i64 n) ∧ w'.cell? ⟨w.heap.size, 2, none⟩ = some (.int .i64 m) ∧ w'.cell? ⟨w.heap.size, 3, none⟩ = some (.int .i64 imm) ∧ Below w.heap.size w w')
    (first | exact keepDrew hS | assumption | exact keepBox hb2 (by assumption))
    ((go_at_call 6; refine (rows_let _).mono ?_; rintro e w2 ⟨g, rfl, hg1, hb2, hg2, hg3⟩; have hl1 := fun k => run_look_plain w2 g k hg1))
  rename_i hH
  rw [HI.out]
  clear hl1 hg1 hb2 hg2 hg3 hfld hS
  obtain ⟨z0, b0, b1, b2, b3, hB⟩ := hH
  have HB : Hid (Below w.heap.size w w2) := hB
  clear hB
  go_wp2_with fail
  go_quiet (fail)
  go_wp2_with fail
  clear b0 b1 b2 b3
  go_loop [6, 7, 8, 9, 28] (fun s6 s7 s8 s9 s28 => ∃ (k : Nat) (n' m' v' x : Int), k ≤ 16 ∧ s6 = .int .i64 n' ∧ s7 = .int .i64 m' ∧ s8 = .int .i64 v' ∧ s9 = .int .i64 x ∧ s28 = .int .i64 k ∧ 0 ≤ x ∧ x < 2 ^ k ∧ Hid (encRun ((revBits op).drop k) n' m' v' x (2 ^ k) = encRun (revBits op) n m imm 0 1)) (fun _ _ _ _ i => 16 - (intOf i).toNat)
  case atStart => exact ⟨0, n, m, imm, 0, Nat.zero_le _, rfl, rfl, rfl, rfl, rfl, by omega, by omega, rfl⟩
  case round =>
    obtain ⟨k, n', m', v', x, hk, rfl, rfl, rfl, rfl, rfl, hx0, hx1, HF⟩ := hrel
    by_cases hlt : k < 16
    · have hk' : (k : Int) < 16 := by omega
      have hidx := index9 (refBits op) (15 - k) (15 - (k : Int)) (by omega) (by omega)
      have hd : (revBits op).drop k = (refBits op)[15 - k] :: (revBits op).drop (k + 1) := rev_drop _ k hsz hlt
      rw [hd] at HF
      have hp : (2 : Int) ^ k ≤ 32768 := by
        have := Nat.pow_le_pow_right (n := 2) (by omega) (show k ≤ 15 by omega)
        have h2 : ((2 ^ k : Nat) : Int) ≤ ((2 ^ 15 : Nat) : Int) := by omega
        simpa using h2
      clear hd
      generalize (refBits op)[15 - k] = c at *
      have hq : (2 : Int) ^ (k + 1) = 2 * 2 ^ k := by rw [Int.pow_succ]; omega
      have HQ : Hid ((2 : Int) ^ (k + 1) = 2 * 2 ^ k) := hq
      clear hq
      have hp0 : 0 < (2 : Int) ^ k := by
        have := Nat.two_pow_pos k
        have h2 : (0 : Int) < ((2 ^ k : Nat) : Int) := by omega
        simpa using h2
      by_cases c1 : c = 49
      · subst c1
        go_wp2
        exact ⟨⟨k + 1, n', m', v', x + 2 ^ k, by omega, rfl, rfl, rfl, rfl, by go_num, by omega, by rw [HQ.out]; omega, by rw [HQ.out]; exact HF.out⟩, by simp [intOf]; omega⟩
      by_cases c_110 : c = 110
      · subst c_110
        have hand := and_one n'
        have h2 : 0 ≤ n' % 2 ∧ n' % 2 ≤ 1 := by omega
        obtain ⟨h20, h21⟩ := h2
        have h3 : 0 ≤ n' % 2 * 2 ^ k ∧ n' % 2 * 2 ^ k ≤ 2 ^ k := by
          have : n' % 2 = 0 ∨ n' % 2 = 1 := by omega
          rcases this with e | e <;> rw [e] <;> omega
        obtain ⟨h30, h31⟩ := h3
        go_wp2
        exact ⟨⟨k + 1, n' / 2, m', v', x + n' % 2 * 2 ^ k, by omega, rfl, rfl, rfl, rfl, by go_num, by omega, by rw [HQ.out]; omega, by rw [HQ.out]; exact HF.out⟩, by simp [intOf]; omega⟩
      by_cases c_109 : c = 109
      · subst c_109
        have hand := and_one m'
        have h2 : 0 ≤ m' % 2 ∧ m' % 2 ≤ 1 := by omega
        obtain ⟨h20, h21⟩ := h2
        have h3 : 0 ≤ m' % 2 * 2 ^ k ∧ m' % 2 * 2 ^ k ≤ 2 ^ k := by
          have : m' % 2 = 0 ∨ m' % 2 = 1 := by omega
          rcases this with e | e <;> rw [e] <;> omega
        obtain ⟨h30, h31⟩ := h3
        go_wp2
        exact ⟨⟨k + 1, n', m' / 2, v', x + m' % 2 * 2 ^ k, by omega, rfl, rfl, rfl, rfl, by go_num, by omega, by rw [HQ.out]; omega, by rw [HQ.out]; exact HF.out⟩, by simp [intOf]; omega⟩
      by_cases c_105 : c = 105
      · subst c_105
        have hand := and_one v'
        have h2 : 0 ≤ v' % 2 ∧ v' % 2 ≤ 1 := by omega
        obtain ⟨h20, h21⟩ := h2
        have h3 : 0 ≤ v' % 2 * 2 ^ k ∧ v' % 2 * 2 ^ k ≤ 2 ^ k := by
          have : v' % 2 = 0 ∨ v' % 2 = 1 := by omega
          rcases this with e | e <;> rw [e] <;> omega
        obtain ⟨h30, h31⟩ := h3
        go_wp2
        exact ⟨⟨k + 1, n', m', v' / 2, x + v' % 2 * 2 ^ k, by omega, rfl, rfl, rfl, rfl, by go_num, by omega, by rw [HQ.out]; omega, by rw [HQ.out]; exact HF.out⟩, by simp [intOf]; omega⟩
      have t1 : ((c.toNat : Int) == 49) = false := beq_eq_false_iff_ne.2 (fun e => c1 (UInt8.toNat_inj.1 (by simpa using Int.ofNat.inj e)))
      have t2 : ((c.toNat : Int) == 110) = false := beq_eq_false_iff_ne.2 (fun e => c_110 (UInt8.toNat_inj.1 (by simpa using Int.ofNat.inj e)))
      have t3 : ((c.toNat : Int) == 109) = false := beq_eq_false_iff_ne.2 (fun e => c_109 (UInt8.toNat_inj.1 (by simpa using Int.ofNat.inj e)))
      have t4 : ((c.toNat : Int) == 105) = false := beq_eq_false_iff_ne.2 (fun e => c_105 (UInt8.toNat_inj.1 (by simpa using Int.ofNat.inj e)))
      have HF2 : Hid (encRun ((revBits op).drop (k + 1)) n' m' v' x (2 * 2 ^ k) = encRun (revBits op) n m imm 0 1) := by
        have := HF.out
        rwa [encRun, if_neg c1, if_neg c_110, if_neg c_109, if_neg c_105] at this
      clear HF c1 c_110 c_109 c_105
      go_wp2
      exact ⟨⟨k + 1, n', m', v', x, by omega, rfl, rfl, rfl, rfl, by go_num, by omega, by rw [HQ.out]; omega, by rw [HQ.out]; exact HF2.out⟩, by simp [intOf]; omega⟩
    · have hk16 : k = 16 := by omega
      subst hk16
      have HX : Hid (x = encRun (revBits op) n m imm 0 1) := by
        have := HF.out
        rw [List.drop_of_length_le (by show (revBits op).length ≤ 16; unfold revBits; rw [List.length_reverse]; show (refBits op).size ≤ 16; omega)] at this
        exact this
      clear HF
      go_wp2
      go_ret2
      exact ⟨by rw [← HX.out]; rfl, below_draws HB.out _⟩

end Go.Proofs.YtnloooiimpdabaaDoor
