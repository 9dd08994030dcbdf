/- The contracts of the program's To, number, register, place, goal. -/
import Derived.Test.YtgadpimknobljaaDoorDsSpec
namespace Go.Proofs.YtgadpimknobljaaDoor
open Go.RowKit Isa

theorem nat_and3 (x : Nat) (h : x < 18446744073709551616) : x &&& 18446744073709551612 = x / 4 * 4 := by
  have e1 : (x &&& 18446744073709551612) / 2 ^ 2 = x / 4 := by
    rw [Nat.and_div_two_pow]
    show x / 4 &&& (2 ^ 62 - 1) = _
    rw [Nat.and_two_pow_sub_one_eq_mod]
    omega
  have e2 : (x &&& 18446744073709551612) % 2 ^ 2 = 0 := by
    rw [Nat.and_mod_two_pow]
    show x % 4 &&& 0 = 0
    rw [Nat.and_zero]
  omega
theorem andNot3 (x : Int) (h0 : 0 ≤ x) (h1 : x ≤ 9223372036854775807) : bits .andNot .i64 x 3 = x - x % 4 := by
  show IntKind.i64.wrap ((BitVec.ofInt IntKind.i64.bits x &&& ~~~ BitVec.ofInt IntKind.i64.bits 3).toNat : Int) = _
  have : (BitVec.ofInt IntKind.i64.bits x &&& ~~~ BitVec.ofInt IntKind.i64.bits 3).toNat = x.toNat / 4 * 4 := by
    show (BitVec.ofInt 64 x &&& BitVec.ofNat 64 18446744073709551612).toNat = _
    rw [BitVec.toNat_and, BitVec.toNat_ofInt]
    show (x % 18446744073709551616).toNat &&& 18446744073709551612 = _
    rw [nat_and3 _ (by omega)]
    omega
  rw [this, IntKind.wrap_i64]
  omega

theorem ret2 {a ti : Int} {x tb : Bool} (h1 : a = ti) (h2 : x = tb) : Ending.returned (.tuple #[.int .i64 a, .bool x]) = Ending.returned (.tuple #[.int .i64 ti, .bool tb]) := by rw [h1, h2]

theorem to_any (op n m imm at' : Int) (w : World) (hL : Laid w) (h0 : 0 ≤ at') (h1 : at' ≤ 1000000000000) (h2 : -10000 ≤ imm) (h3 : imm ≤ 10000) :
    Calls Tryd.prog 7 #[.agg #[.int .i64 op, .int .i64 n, .int .i64 m, .int .i64 imm], .int .i64 at'] w fun e w' => e = .returned (.tuple #[.int .i64 (toI op imm at'), .bool (toB op)]) ∧ Below w.heap.size w w' := by
  have HI : Hid (∀ W, Below w.heap.size w W → Calls Tryd.prog 24 #[.int .i64 op] W fun e w' => e = .returned (.tuple #[.string (infoName op), .int .i64 (infoShape op)]) ∧ Below W.heap.size W w') :=
    fun W hb => info_any op W (hL.below hb hL.sz)
  obtain ⟨ti, hti⟩ : ∃ x, x = toI op imm at' := ⟨_, rfl⟩
  obtain ⟨tb, htb⟩ : ∃ x, x = toB op := ⟨_, rfl⟩
  rw [← hti, ← htb]
  have HT := Lib.hid (And.intro hti htb)
  have hA := andNot3 (at' + 4) (by omega) (by omega)
  clear hti htb hL
  generalize infoName op = nm at *
  have HX : Hid (∀ sh, sh = infoShape op → ti = (if sh = 4 ∨ sh = 5 ∨ sh = 7 then at' + 2 * imm + 4 else if sh = 8 then at' - at' % 4 + 4 + 4 * imm else 0) ∧ tb = decide (sh = 4 ∨ sh = 5 ∨ sh = 7 ∨ sh = 8)) := by
    rintro sh rfl
    exact HT.out
  clear HT
  have HX := Lib.hid (HX.out _ rfl)
  generalize infoShape op = sh at *
  go_enter Tryd.func7, Tryd.ntmps7
  go_wp2_with (first | (go_at_call 24; refine (HI.out _ (oalloc _ _)).mono ?_; rintro e W1 ⟨rfl, hb1⟩; have c3 : W1.cell? ⟨w.heap.size, 3, none⟩ = some (.int .i64 imm) := (hb1.cell (p := ⟨w.heap.size, 3, none⟩) (by simp)).trans (by simp); have HB1 := Lib.hid ((oalloc w (.cells #[.int .i64 op, .int .i64 n, .int .i64 m, .int .i64 imm] 24)).trans (hb1.mono (by simp))); clear hb1) | fail)
  all_goals go_ret2
  all_goals (
    obtain ⟨ht1, ht2⟩ := HX.out
    refine ⟨ret2 ?_ ?_, HB1.out⟩
    · clear ht2 HX HB1 HI
      rw [ht1]
      simp_all
      try omega
    · clear ht1 HX HB1 HI
      rw [ht2]
      simp_all)

/-- Texts put together. -/
theorem bcats (a b : List UInt8) : Value.string ((⟨a.toArray⟩ : ByteArray) ++ ⟨b.toArray⟩) = Value.string ⟨(a ++ b).toArray⟩ := by rw [bcat]

theorem itoa_few (n : Int) (h0 : -9223372036854775808 ≤ n) (h1 : n ≤ 9223372036854775807) : (Lib.itoa n).length ≤ 21 := Lib.itoa_length_le n h0 h1

theorem number_any' (n : Int) (h0 : -9223372036854775808 ≤ n) (h1 : n ≤ 9223372036854775807) (w : World) (hD : DL w) :
    Calls Tryd.prog 34 #[.int .i64 n] w fun e w' => e = .returned (.string ⟨(numL n).toArray⟩) ∧ Below w.heap.size w w' := by
  have HF := Lib.hid (itoa_any n h0 h1 w hD)
  have hl := itoa_few n h0 h1
  unfold numL
  clear hD
  generalize Lib.itoa n = l at *
  go_enter Tryd.func34, Tryd.ntmps34
  go_wp2_with (first | (go_at_call 18; refine HF.out.mono ?_; rintro e w1 ⟨rfl, hb⟩; have HB := Lib.hid hb; clear hb) | fail)
  have HC := Lib.hid (bcat [35] l)
  go_ret
  exact ⟨congrArg (fun x => Ending.returned (Value.string x)) HC.out, HB.out⟩

theorem register_any (n : Int) (h0 : -9223372036854775808 ≤ n) (h1 : n ≤ 9223372036854775807) (w : World) (hD : DL w) :
    Calls Tryd.prog 35 #[.int .i64 n] w fun e w' => e = .returned (.string ⟨(regL n).toArray⟩) ∧ Below w.heap.size w w' := by
  have HF := Lib.hid (itoa_any n h0 h1 w hD)
  have hl := itoa_few n h0 h1
  unfold regL
  clear hD
  generalize Lib.itoa n = l at *
  go_enter Tryd.func35, Tryd.ntmps35
  go_wp2_with (first | (go_at_call 18; refine HF.out.mono ?_; rintro e w1 ⟨rfl, hb⟩; have HB := Lib.hid hb; clear hb) | fail)
  have HC := Lib.hid (bcat [114] l)
  go_ret
  exact ⟨congrArg (fun x => Ending.returned (Value.string x)) HC.out, HB.out⟩

theorem place_any (n : Int) (w : World) (h0 : -9223372036854775808 ≤ n) (h1 : n ≤ 9223372036854775807) (hD : DL w) :
    Calls Tryd.prog 15 #[.int .i64 n] w fun e w' => e = .returned (.string ⟨(placeL n).toArray⟩) ∧ Below w.heap.size w w' := by
  have HF := Lib.hid (fmtInt16_any n w h0 h1 hD.tz)
  have hl := hexS_len n
  unfold placeL
  clear hD
  generalize hexS n = l at *
  go_enter Tryd.func15, Tryd.ntmps15
  go_wp2_with (first | (go_at_call 29; refine HF.out.mono ?_; rintro e w1 ⟨rfl, hb⟩; have HB := Lib.hid hb; clear hb) | fail)
  have HC := Lib.hid (bcat [120] l)
  go_ret
  exact ⟨congrArg (fun x => Ending.returned (Value.string x)) HC.out, HB.out⟩

theorem toI_bd (op imm at' : Int) (h0 : 0 ≤ at') (h1 : at' ≤ 1000000000000) (h2 : -10000 ≤ imm) (h3 : imm ≤ 10000) : -9223372036854775808 ≤ toI op imm at' ∧ toI op imm at' ≤ 9223372036854775807 := by
  unfold toI
  split
  · omega
  · split <;> omega

theorem goal_any (op n m imm at' : Int) (w : World) (hD : DL w) (h0 : 0 ≤ at') (h1 : at' ≤ 1000000000000) (h2 : -10000 ≤ imm) (h3 : imm ≤ 10000) :
    Calls Tryd.prog 36 #[.agg #[.int .i64 op, .int .i64 n, .int .i64 m, .int .i64 imm], .int .i64 at'] w fun e w' => e = .returned (.string ⟨(placeL (toI op imm at')).toArray⟩) ∧ Below w.heap.size w w' := by
  have HT := Lib.hid (to_any op n m imm at' (w.alloc (.cells #[.int .i64 op, .int .i64 n, .int .i64 m, .int .i64 imm] 24)) (hD.next (oalloc _ _)).laid h0 h1 h2 h3)
  have HP : Hid (∀ W, Below w.heap.size w W → Calls Tryd.prog 15 #[.int .i64 (toI op imm at')] W fun e w' => e = .returned (.string ⟨(placeL (toI op imm at')).toArray⟩) ∧ Below W.heap.size W w') :=
    fun W hb => place_any _ W (toI_bd op imm at' h0 h1 h2 h3).1 (toI_bd op imm at' h0 h1 h2 h3).2 (hD.next hb)
  clear hD
  generalize toI op imm at' = ti at *
  go_enter Tryd.func36, Tryd.ntmps36
  go_wp2_with (first | (go_at_call 7; refine HT.out.mono ?_; rintro e W1 ⟨rfl, hb1⟩; have HB1 := Lib.hid ((oalloc w (.cells #[.int .i64 op, .int .i64 n, .int .i64 m, .int .i64 imm] 24)).trans (hb1.mono (by simp))); clear hb1) | (go_at_call 15; refine (HP.out _ HB1.out).mono ?_; rintro e W2 ⟨rfl, hb2⟩; have HB2 := Lib.hid (HB1.out.trans (hb2.mono HB1.out.size)); clear hb2) | fail)
  go_ret
  exact ⟨rfl, HB2.out⟩

end Go.Proofs.YtgadpimknobljaaDoor
