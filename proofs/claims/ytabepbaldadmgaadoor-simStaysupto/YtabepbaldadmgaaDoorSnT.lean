/- The program's own dis.To. -/
import Derived.Test.YtabepbaldadmgaaDoorPut1
import Derived.Test.YtabepbaldadmgaaDoorPut13
namespace Go.Proofs.YtabepbaldadmgaaDoor
open Go.RowKit Isa

theorem nat_and3 (x : Nat) (h : x < 18446744073709551616) : x &&& 18446744073709551612 = x / 4 * 4 := by
  have e1 : (x &&& 18446744073709551612) / 2 ^ 2 = x / 4 := by
    rw [Nat.and_div_two_pow]
    show x / 4 &&& (2 ^ 62 - 1) = _
    rw [Nat.and_two_pow_sub_one_eq_mod]
    omega
  have e2 : (x &&& 18446744073709551612) % 2 ^ 2 = 0 := by
    rw [Nat.and_mod_two_pow]
    show x % 4 &&& 0 = 0
    rw [Nat.and_zero]
  omega
theorem andNot3 (x : Int) (h0 : 0 ≤ x) (h1 : x ≤ 9223372036854775807) : bits .andNot .i64 x 3 = x - x % 4 := by
  show IntKind.i64.wrap ((BitVec.ofInt IntKind.i64.bits x &&& ~~~ BitVec.ofInt IntKind.i64.bits 3).toNat : Int) = _
  have : (BitVec.ofInt IntKind.i64.bits x &&& ~~~ BitVec.ofInt IntKind.i64.bits 3).toNat = x.toNat / 4 * 4 := by
    show (BitVec.ofInt 64 x &&& BitVec.ofNat 64 18446744073709551612).toNat = _
    rw [BitVec.toNat_and, BitVec.toNat_ofInt]
    show (x % 18446744073709551616).toNat &&& 18446744073709551612 = _
    rw [nat_and3 _ (by omega)]
    omega
  rw [this, IntKind.wrap_i64]
  omega

theorem ret2 {a ti : Int} {x tb : Bool} (h1 : a = ti) (h2 : x = tb) : Ending.returned (.tuple #[.int .i64 a, .bool x]) = Ending.returned (.tuple #[.int .i64 ti, .bool tb]) := by rw [h1, h2]

theorem to_any (op n m imm at' : Int) (w : World) (hL : Laid w) (h0 : 0 ≤ at') (h1 : at' ≤ 1000000000000) (h2 : -10000 ≤ imm) (h3 : imm ≤ 10000) :
    Calls Tryd.prog 57 #[.agg #[.int .i64 op, .int .i64 n, .int .i64 m, .int .i64 imm], .int .i64 at'] w fun e w' => e = .returned (.tuple #[.int .i64 (toI op imm at'), .bool (toB op)]) ∧ Below w.heap.size w w' := by
  have HI : Hid (∀ W, Below w.heap.size w W → Calls Tryd.prog 60 #[.int .i64 op] W fun e w' => e = .returned (.tuple #[.string (infoName op), .int .i64 (infoShape op)]) ∧ Below W.heap.size W w') :=
    fun W hb => info_any op W (hL.below hb hL.sz)
  obtain ⟨ti, hti⟩ : ∃ x, x = toI op imm at' := ⟨_, rfl⟩
  obtain ⟨tb, htb⟩ : ∃ x, x = toB op := ⟨_, rfl⟩
  rw [← hti, ← htb]
  have HT := Lib.hid (And.intro hti htb)
  have hA := andNot3 (at' + 4) (by omega) (by omega)
  clear hti htb hL
  generalize infoName op = nm at *
  have HX : Hid (∀ sh, sh = infoShape op → ti = (if sh = 4 ∨ sh = 5 ∨ sh = 7 then at' + 2 * imm + 4 else if sh = 8 then at' - at' % 4 + 4 + 4 * imm else 0) ∧ tb = decide (sh = 4 ∨ sh = 5 ∨ sh = 7 ∨ sh = 8)) := by
    rintro sh rfl
    exact HT.out
  clear HT
  have HX := Lib.hid (HX.out _ rfl)
  generalize infoShape op = sh at *
  go_enter Tryd.func57, Tryd.ntmps57
  go_wp2_with (first | (go_at_call 60; refine (HI.out _ (oalloc _ _)).mono ?_; rintro e W1 ⟨rfl, hb1⟩; have c3 : W1.cell? ⟨w.heap.size, 3, none⟩ = some (.int .i64 imm) := (hb1.cell (p := ⟨w.heap.size, 3, none⟩) (by simp)).trans (by simp); have HB1 := Lib.hid ((oalloc w (.cells #[.int .i64 op, .int .i64 n, .int .i64 m, .int .i64 imm] 45)).trans (hb1.mono (by simp))); clear hb1) | fail)
  all_goals go_ret2
  all_goals (
    obtain ⟨ht1, ht2⟩ := HX.out
    refine ⟨ret2 ?_ ?_, HB1.out⟩
    · clear ht2 HX HB1 HI
      rw [ht1]
      simp_all
      try omega
    · clear ht1 HX HB1 HI
      rw [ht2]
      simp_all)


end Go.Proofs.YtabepbaldadmgaaDoor
