/- The program's own sim: leads, behind, there, holds, moved, made. The program's own dis.To. -/
import Derived.Test.YtabepbaldadmgaaDoorPut10
import Derived.Test.YtabepbaldadmgaaDoorPut1
import Derived.Test.YtabepbaldadmgaaDoorPut5
import Derived.Deep.QuietTactic
import Derived.Test.YtabepbaldadmgaaDoorPut9
namespace Go.Proofs.YtabepbaldadmgaaDoor
open Go.RowKit Isa

theorem oleads_any (op : Int) (w : World) : Calls Tryd.prog 33 #[.int .i64 op] w fun e w' => e = .returned (.bool (leadsB op)) ∧ w = w' := by
  by_cases h1 : op = 2
  · subst h1
    go_enter Tryd.func33, Tryd.ntmps33
    go_wp2
    go_ret
    exact ⟨rfl, rfl⟩
  · have e1 : (op == 2) = false := by simp [h1]
    have HV : Hid (leadsB op = (decide (17 ≤ op) && decide (op ≤ 22))) := by unfold Hid leadsB; simp [h1]
    by_cases h2 : 17 ≤ op
    · go_enter Tryd.func33, Tryd.ntmps33
      go_wp2
      go_ret
      exact ⟨by rw [HV.out]; simp [h2], rfl⟩
    · have HV2 : Hid (leadsB op = false) := by unfold Hid; rw [HV.out]; simp; omega
      go_enter Tryd.func33, Tryd.ntmps33
      go_wp2
      go_ret
      exact ⟨by rw [HV2.out]; rfl, rfl⟩

theorem w6432 (x : Int) : wrap64 (wrap32 x) = wrap32 x := by unfold wrap64 wrap32; omega
theorem w32_id {x : Int} (h0 : -2147483648 ≤ x) (h1 : x ≤ 2147483647) : wrap32 x = x := by unfold wrap32; omega
theorem sgn_any (n : Int) (w : World) : Calls Tryd.prog 51 #[.int .i64 n] w fun e w' => e = .returned (.int .i64 (wrap32 n)) ∧ w = w' := by
  have := signed_any n w
  rw [w6432] at this
  exact this.mono fun _ _ ⟨h1, h2⟩ => ⟨h1, h2.symm⟩
theorem behind_any (a b : Int) (w : World) (h0 : -2147483648 ≤ a + b) (h1 : a + b ≤ 2147483647) : Calls Tryd.prog 36 #[.int .i64 a, .int .i64 b] w fun e w' => e = .returned (.int .i64 (a + b)) ∧ w = w' := by
  have HS : Hid (∀ W, Calls Tryd.prog 51 #[.int .i64 (a + b)] W fun e w' => e = .returned (.int .i64 (a + b)) ∧ W = w') := fun W => by
    have := sgn_any (a + b) W
    rw [w32_id h0 h1] at this
    exact this
  go_enter Tryd.func36, Tryd.ntmps36
  go_wp2_with (first | (go_at_call 51; refine (HS.out _).mono ?_; rintro e w' ⟨rfl, rfl⟩) | fail)
  go_ret
  exact ⟨rfl, rfl⟩

set_option maxHeartbeats 1000000 in
theorem there_any (m : Ma) (ba : Option Addr) (bc : Nat) (sv : Value) (a size : Int) (w : World) (hs : size = 2 ∨ size = 4) (hb0 : 0 ≤ m.base) (hb1 : m.base ≤ 1048576) (hl : m.by'.length ≤ 140737488355328) (ha0 : -4611686018427387904 ≤ a) (ha1 : a ≤ 4611686018427387904) :
    Calls Tryd.prog 40 #[.agg #[.int .i64 m.base, .slice ba m.by'.length bc, sv], .int .i64 a, .int .i64 size] w fun e w' => e = .returned (.tuple #[.int .i64 (a - m.base), .bool (hasB m a size)]) ∧ Below w.heap.size w w' := by
  obtain ⟨X, hX⟩ : ∃ X, X = hasB m a size := ⟨_, rfl⟩
  rw [← hX]
  unfold hasB at hX
  obtain ⟨V, hV⟩ : ∃ V, V = w.alloc (.cells #[.int .i64 m.base, .slice ba m.by'.length bc, sv] 26) := ⟨_, rfl⟩
  have hb : Below w.heap.size w V := by rw [hV]; exact oalloc _ _
  have k : V.heap[w.heap.size]? = some (.cells #[.int .i64 m.base, .slice ba m.by'.length bc, sv] 26 (0, 0)) := by rw [hV]; exact blk_new _ _ _
  have c0 := cell_of_block (i := 0) k rfl
  have c1 := cell_of_block (i := 1) k rfl
  have HV := Lib.hid hV.symm
  have HB : Hid (∀ nq, Below w.heap.size w (V.drewN nq)) := fun nq => hb.trans (Go.Joins.below_draws _ V nq)
  clear hV k hb
  generalize m.base = base at *
  generalize m.by'.length = len at *
  have hsz : ¬ size = 0 := by omega
  have hsn : (size == 0) = false := by simp [hsz]
  by_cases h1 : a.tmod size = 0
  · have h1b : (a.tmod size == 0) = true := by simp [h1]
    have h1e : a % size = 0 := Int.emod_eq_zero_of_dvd (Int.dvd_of_tmod_eq_zero h1)
    by_cases h2 : base ≤ a
    · have h2b : decide (base ≤ a) = true := by simp; omega
      have HX : Hid (X = decide (a - base ≤ (len : Int) - size)) := by
        unfold Hid; rw [hX]; simp only [h2, h1e, decide_true, Bool.true_and, decide_eq_decide]; omega
      clear hX
      go_enter Tryd.func40, Tryd.ntmps40
      go_wp2_with fail
      rw [HV.out]
      go_quiet (fail)
      go_wp2
      go_ret2
      exact ⟨by rw [HX.out]; rfl, HB.out _⟩
    · have h2b : decide (base ≤ a) = false := by simp; omega
      have HX : Hid (X = false) := by
        unfold Hid; rw [hX]; simp [h2]
      clear hX
      go_enter Tryd.func40, Tryd.ntmps40
      go_wp2_with fail
      rw [HV.out]
      go_quiet (fail)
      go_wp2
      go_ret2
      exact ⟨by rw [HX.out]; rfl, HB.out _⟩
  · have h1b : (a.tmod size == 0) = false := by simp [h1]
    have h1e : ¬ a % size = 0 := fun h => h1 (Int.tmod_eq_zero_of_dvd (Int.dvd_of_emod_eq_zero h))
    have HX : Hid (X = false) := by
      unfold Hid; rw [hX]; simp [h1e]
    clear hX
    go_enter Tryd.func40, Tryd.ntmps40
    go_wp2_with fail
    rw [HV.out]
    go_quiet (fail)
    go_wp2
    go_ret2
    exact ⟨by rw [HX.out]; rfl, HB.out _⟩

theorem holds_any (op n m : Int) (w : World) (h : op = 11 ∨ op = 12 ∨ op = 13) : Calls Tryd.prog 48 #[.int .i64 op, .int .i64 n, .int .i64 m] w fun e w' => e = .returned (.bool (if op = 11 then (bits .and .i64 n m == 0) else if op = 12 then (n == m) else decide (m < n))) ∧ w = w' := by
  rcases h with rfl | rfl | rfl
  all_goals
    go_enter Tryd.func48, Tryd.ntmps48
    go_wp2
    go_ret
    exact ⟨rfl, rfl⟩

theorem moved_any (op n : Int) (w : World) (h : op = 14 ∨ op = 15 ∨ op = 16) (h0 : -2147483648 ≤ n) (h1 : n ≤ 2147483647) : Calls Tryd.prog 49 #[.int .i64 op, .int .i64 n] w fun e w' => e = .returned (.tuple (if op = 14 then #[.int .i64 (wrap32 (2 * n)), .bool (decide (n < 0))] else if op = 15 then #[.int .i64 (n % 4294967296 / 2), .bool (n % 2 == 1)] else #[.int .i64 (wrap32 (n - 1)), .bool (wrap32 (n - 1) == 0)])) ∧ w = w' := by
  have HS := Lib.hid sgn_any
  have ha := and_one n
  rcases h with rfl | rfl | rfl
  · go_enter Tryd.func49, Tryd.ntmps49
    go_wp2_with (first | (go_at_call 51; refine (HS.out _ _).mono ?_; rintro e w' ⟨rfl, rfl⟩) | fail)
    go_ret2
    exact ⟨rfl, rfl⟩
  · go_enter Tryd.func49, Tryd.ntmps49
    go_wp2_with (first | (go_at_call 51; refine (HS.out _ _).mono ?_; rintro e w' ⟨rfl, rfl⟩) | fail)
    go_ret2
    exact ⟨rfl, rfl⟩
  · go_enter Tryd.func49, Tryd.ntmps49
    go_wp2_with (first | (go_at_call 51; refine (HS.out _ _).mono ?_; rintro e w' ⟨rfl, rfl⟩) | fail)
    go_ret2
    exact ⟨rfl, rfl⟩

/-- What comes of register n by an instruction that makes it of numbers. -/
def madeV (op imm n m : Int) : Int :=
  if op = 3 then imm else if op = 4 then wrap32 (n + imm) else if op = 5 then m else if op = 6 then wrap32 (n + m) else if op = 7 then wrap32 (n - m)
  else if op = 8 then bits .and .i32 n m else if op = 9 then bits .or .i32 n m else if op = 10 then bits .xor .i32 n m else n

theorem made_any (op a b imm n m : Int) (w : World) (h : op = 1 ∨ (3 ≤ op ∧ op ≤ 10)) (hi0 : -10000 ≤ imm) (hi1 : imm ≤ 10000) (h0 : -2147483648 ≤ n) (h1 : n ≤ 2147483647) (h2 : -2147483648 ≤ m) (h3 : m ≤ 2147483647) :
    Calls Tryd.prog 50 #[.agg #[.int .i64 op, .int .i64 a, .int .i64 b, .int .i64 imm], .int .i64 n, .int .i64 m] w fun e w' => e = .returned (.int .i64 (madeV op imm n m)) ∧ Below w.heap.size w w' := by
  have HS := Lib.hid sgn_any
  have HA := Lib.hid (and_ext n m h0 h1 h2 h3)
  have HO := Lib.hid (or_ext n m h0 h1 h2 h3)
  have HX := Lib.hid (xor_ext n m h0 h1 h2 h3)
  have HB : Hid (∀ o, Below w.heap.size w (w.alloc o)) := fun o => oalloc w o
  obtain rfl | rfl | rfl | rfl | rfl | rfl | rfl | rfl | rfl : op = 1 ∨ op = 3 ∨ op = 4 ∨ op = 5 ∨ op = 6 ∨ op = 7 ∨ op = 8 ∨ op = 9 ∨ op = 10 := by omega
  all_goals
    go_enter Tryd.func50, Tryd.ntmps50
    go_wp2_with (first | (go_at_call 51; refine (HS.out _ _).mono ?_; rintro e w' ⟨rfl, rfl⟩) | fail)
    go_ret
    refine ⟨?_, HB.out _⟩
    first | rfl | (show Ending.returned (Value.int .i64 (bits .and .i64 n m)) = _; rw [HA.out]; rfl) | (show Ending.returned (Value.int .i64 (bits .or .i64 n m)) = _; rw [HO.out]; rfl) | (show Ending.returned (Value.int .i64 (bits .xor .i64 n m)) = _; rw [HX.out]; rfl)

end Go.Proofs.YtabepbaldadmgaaDoor

namespace Go.Proofs.YtabepbaldadmgaaDoor
open Go.RowKit Isa

theorem nat_and3 (x : Nat) (h : x < 18446744073709551616) : x &&& 18446744073709551612 = x / 4 * 4 := by
  have e1 : (x &&& 18446744073709551612) / 2 ^ 2 = x / 4 := by
    rw [Nat.and_div_two_pow]
    show x / 4 &&& (2 ^ 62 - 1) = _
    rw [Nat.and_two_pow_sub_one_eq_mod]
    omega
  have e2 : (x &&& 18446744073709551612) % 2 ^ 2 = 0 := by
    rw [Nat.and_mod_two_pow]
    show x % 4 &&& 0 = 0
    rw [Nat.and_zero]
  omega
theorem andNot3 (x : Int) (h0 : 0 ≤ x) (h1 : x ≤ 9223372036854775807) : bits .andNot .i64 x 3 = x - x % 4 := by
  show IntKind.i64.wrap ((BitVec.ofInt IntKind.i64.bits x &&& ~~~ BitVec.ofInt IntKind.i64.bits 3).toNat : Int) = _
  have : (BitVec.ofInt IntKind.i64.bits x &&& ~~~ BitVec.ofInt IntKind.i64.bits 3).toNat = x.toNat / 4 * 4 := by
    show (BitVec.ofInt 64 x &&& BitVec.ofNat 64 18446744073709551612).toNat = _
    rw [BitVec.toNat_and, BitVec.toNat_ofInt]
    show (x % 18446744073709551616).toNat &&& 18446744073709551612 = _
    rw [nat_and3 _ (by omega)]
    omega
  rw [this, IntKind.wrap_i64]
  omega

theorem ret2 {a ti : Int} {x tb : Bool} (h1 : a = ti) (h2 : x = tb) : Ending.returned (.tuple #[.int .i64 a, .bool x]) = Ending.returned (.tuple #[.int .i64 ti, .bool tb]) := by rw [h1, h2]

theorem to_any (op n m imm at' : Int) (w : World) (hL : Laid w) (h0 : 0 ≤ at') (h1 : at' ≤ 1000000000000) (h2 : -10000 ≤ imm) (h3 : imm ≤ 10000) :
    Calls Tryd.prog 57 #[.agg #[.int .i64 op, .int .i64 n, .int .i64 m, .int .i64 imm], .int .i64 at'] w fun e w' => e = .returned (.tuple #[.int .i64 (toI op imm at'), .bool (toB op)]) ∧ Below w.heap.size w w' := by
  have HI : Hid (∀ W, Below w.heap.size w W → Calls Tryd.prog 60 #[.int .i64 op] W fun e w' => e = .returned (.tuple #[.string (infoName op), .int .i64 (infoShape op)]) ∧ Below W.heap.size W w') :=
    fun W hb => info_any op W (hL.below hb hL.sz)
  obtain ⟨ti, hti⟩ : ∃ x, x = toI op imm at' := ⟨_, rfl⟩
  obtain ⟨tb, htb⟩ : ∃ x, x = toB op := ⟨_, rfl⟩
  rw [← hti, ← htb]
  have HT := Lib.hid (And.intro hti htb)
  have hA := andNot3 (at' + 4) (by omega) (by omega)
  clear hti htb hL
  generalize infoName op = nm at *
  have HX : Hid (∀ sh, sh = infoShape op → ti = (if sh = 4 ∨ sh = 5 ∨ sh = 7 then at' + 2 * imm + 4 else if sh = 8 then at' - at' % 4 + 4 + 4 * imm else 0) ∧ tb = decide (sh = 4 ∨ sh = 5 ∨ sh = 7 ∨ sh = 8)) := by
    rintro sh rfl
    exact HT.out
  clear HT
  have HX := Lib.hid (HX.out _ rfl)
  generalize infoShape op = sh at *
  go_enter Tryd.func57, Tryd.ntmps57
  go_wp2_with (first | (go_at_call 60; refine (HI.out _ (oalloc _ _)).mono ?_; rintro e W1 ⟨rfl, hb1⟩; have c3 : W1.cell? ⟨w.heap.size, 3, none⟩ = some (.int .i64 imm) := (hb1.cell (p := ⟨w.heap.size, 3, none⟩) (by simp)).trans (by simp); have HB1 := Lib.hid ((oalloc w (.cells #[.int .i64 op, .int .i64 n, .int .i64 m, .int .i64 imm] 45)).trans (hb1.mono (by simp))); clear hb1) | fail)
  all_goals go_ret2
  all_goals (
    obtain ⟨ht1, ht2⟩ := HX.out
    refine ⟨ret2 ?_ ?_, HB1.out⟩
    · clear ht2 HX HB1 HI
      rw [ht1]
      simp_all
      try omega
    · clear ht1 HX HB1 HI
      rw [ht2]
      simp_all)


end Go.Proofs.YtabepbaldadmgaaDoor
