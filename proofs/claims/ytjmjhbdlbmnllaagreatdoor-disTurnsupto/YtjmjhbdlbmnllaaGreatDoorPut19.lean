/- What the line of an instruction is; what the callees may count on. The contracts of the program's To, number, register, place, goal. The contracts of the program's operands and Line. The contracts of the program's operands and Line. -/
import Derived.Test.YtjmjhbdlbmnllaaGreatDoorDhC
import Derived.Test.YtjmjhbdlbmnllaaGreatDoorPut11
import Derived.Test.YtjmjhbdlbmnllaaGreatDoorDsShelf
import Derived.Lib.ItoaMem
import Derived.Lib.ItoaLen
import Derived.Lib.AppendIntMem
namespace Go.Proofs.YtjmjhbdlbmnllaaGreatDoor.Di
open Go.RowKit Isa

def regL (n : Int) : List UInt8 := 114 :: Lib.itoa n
def numL (n : Int) : List UInt8 := 35 :: Lib.itoa n
def placeL (n : Int) : List UInt8 := 120 :: hexS n
/-- The operands of an instruction of that shape. -/
def operL (s n m imm p : Int) : List UInt8 :=
  if s = 1 then numL imm ++ [44] ++ regL n
  else if s = 2 then regL m ++ [44] ++ regL n
  else if s = 3 then regL n
  else if s = 4 then placeL p
  else if s = 5 then placeL p
  else if s = 6 then [64] ++ regL n
  else if s = 7 then placeL p ++ [44] ++ regL n
  else if s = 8 then placeL p ++ [44] ++ regL n
  else if s = 9 then regL m ++ [44, 64] ++ regL n
  else if s = 10 then [64] ++ regL m ++ [44] ++ regL n
  else numL imm
/-- An instruction's line. -/
def lineL (op n m imm at' : Int) : List UInt8 :=
  if infoShape op = 0 then (infoName op).data.toList else (infoName op).data.toList ++ [32] ++ operL (infoShape op) n m imm (toI op imm at')

/-- What the variables hold that the callees read. -/
structure DL (w : World) : Prop where
  laid : Laid w
  tab : Lib.TabIs Tryz.prog w "internal/strconv.uint64pow10" .u64 Lib.pow10Tab
  tz : w.cell? ⟨6, 15, none⟩ = some (.int .u8 4)
  sz : 8 < w.heap.size

theorem DL.below {B : Nat} {w w' : World} (h : DL w) (hb : Below B w w') (hB : 8 < B) : DL w' where
  laid := h.laid.below hb (by omega)
  tab := by
    have ht := h.tab
    have hg : Tryz.prog.globalNamed "internal/strconv.uint64pow10" = some 2 := by kernel_rfl
    unfold Lib.TabIs World.var? at *
    simp only [hg, Option.bind_some] at ht ⊢
    rw [hb.block 2 (by omega)]
    exact ht
  tz := (hb.cell (p := ⟨6, 15, none⟩) (show 6 < B by omega)).trans h.tz
  sz := Nat.lt_of_lt_of_le h.sz hb.size
theorem DL.next {w w' : World} (h : DL w) (hb : Below w.heap.size w w') : DL w' := h.below hb h.sz
theorem itoa_any (n : Int) (h0 : -9223372036854775808 ≤ n) (h1 : n ≤ 9223372036854775807) (w : World) (hD : DL w) :
    Calls Tryz.prog 27 #[.int .i64 n] w fun e w' => e = .returned (.string ⟨(Lib.itoa n).toArray⟩) ∧ Below w.heap.size w w' := by
  refine (Tryz.strconv_Itoa n h0 h1 w hD.tab).mono ?_
  rintro e w' ⟨rfl, k, os, rfl⟩
  exact ⟨rfl, Lib.below_grow _ w (Nat.le_refl _) k os⟩

end Go.Proofs.YtjmjhbdlbmnllaaGreatDoor.Di

namespace Go.Proofs.YtjmjhbdlbmnllaaGreatDoor.Di
open Go.RowKit Isa

theorem nat_and3 (x : Nat) (h : x < 18446744073709551616) : x &&& 18446744073709551612 = x / 4 * 4 := by
  have e1 : (x &&& 18446744073709551612) / 2 ^ 2 = x / 4 := by
    rw [Nat.and_div_two_pow]
    show x / 4 &&& (2 ^ 62 - 1) = _
    rw [Nat.and_two_pow_sub_one_eq_mod]
    omega
  have e2 : (x &&& 18446744073709551612) % 2 ^ 2 = 0 := by
    rw [Nat.and_mod_two_pow]
    show x % 4 &&& 0 = 0
    rw [Nat.and_zero]
  omega
theorem andNot3 (x : Int) (h0 : 0 ≤ x) (h1 : x ≤ 9223372036854775807) : bits .andNot .i64 x 3 = x - x % 4 := by
  show IntKind.i64.wrap ((BitVec.ofInt IntKind.i64.bits x &&& ~~~ BitVec.ofInt IntKind.i64.bits 3).toNat : Int) = _
  have : (BitVec.ofInt IntKind.i64.bits x &&& ~~~ BitVec.ofInt IntKind.i64.bits 3).toNat = x.toNat / 4 * 4 := by
    show (BitVec.ofInt 64 x &&& BitVec.ofNat 64 18446744073709551612).toNat = _
    rw [BitVec.toNat_and, BitVec.toNat_ofInt]
    show (x % 18446744073709551616).toNat &&& 18446744073709551612 = _
    rw [nat_and3 _ (by omega)]
    omega
  rw [this, IntKind.wrap_i64]
  omega

theorem ret2 {a ti : Int} {x tb : Bool} (h1 : a = ti) (h2 : x = tb) : Ending.returned (.tuple #[.int .i64 a, .bool x]) = Ending.returned (.tuple #[.int .i64 ti, .bool tb]) := by rw [h1, h2]

theorem to_any (op n m imm at' : Int) (w : World) (hL : Laid w) (h0 : 0 ≤ at') (h1 : at' ≤ 1000000000000) (h2 : -10000 ≤ imm) (h3 : imm ≤ 10000) :
    Calls Tryz.prog 8 #[.agg #[.int .i64 op, .int .i64 n, .int .i64 m, .int .i64 imm], .int .i64 at'] w fun e w' => e = .returned (.tuple #[.int .i64 (toI op imm at'), .bool (toB op)]) ∧ Below w.heap.size w w' := by
  have HI : Hid (∀ W, Below w.heap.size w W → Calls Tryz.prog 20 #[.int .i64 op] W fun e w' => e = .returned (.tuple #[.string (infoName op), .int .i64 (infoShape op)]) ∧ Below W.heap.size W w') :=
    fun W hb => info_any op W (hL.below hb hL.sz)
  obtain ⟨ti, hti⟩ : ∃ x, x = toI op imm at' := ⟨_, rfl⟩
  obtain ⟨tb, htb⟩ : ∃ x, x = toB op := ⟨_, rfl⟩
  rw [← hti, ← htb]
  have HT := Lib.hid (And.intro hti htb)
  have hA := andNot3 (at' + 4) (by omega) (by omega)
  clear hti htb hL
  generalize infoName op = nm at *
  have HX : Hid (∀ sh, sh = infoShape op → ti = (if sh = 4 ∨ sh = 5 ∨ sh = 7 then at' + 2 * imm + 4 else if sh = 8 then at' - at' % 4 + 4 + 4 * imm else 0) ∧ tb = decide (sh = 4 ∨ sh = 5 ∨ sh = 7 ∨ sh = 8)) := by
    rintro sh rfl
    exact HT.out
  clear HT
  have HX := Lib.hid (HX.out _ rfl)
  generalize infoShape op = sh at *
  go_enter Tryz.func8, Tryz.ntmps8
  go_wp2_with (first | (go_at_call 20; refine (HI.out _ (oalloc _ _)).mono ?_; rintro e W1 ⟨rfl, hb1⟩; have c3 : W1.cell? ⟨w.heap.size, 3, none⟩ = some (.int .i64 imm) := (hb1.cell (p := ⟨w.heap.size, 3, none⟩) (by simp)).trans (by simp); have HB1 := Lib.hid ((oalloc w (.cells #[.int .i64 op, .int .i64 n, .int .i64 m, .int .i64 imm] 39)).trans (hb1.mono (by simp))); clear hb1) | fail)
  all_goals go_ret2
  all_goals (
    obtain ⟨ht1, ht2⟩ := HX.out
    refine ⟨ret2 ?_ ?_, HB1.out⟩
    · clear ht2 HX HB1 HI
      rw [ht1]
      simp_all
      try omega
    · clear ht1 HX HB1 HI
      rw [ht2]
      simp_all)

theorem itoa_few (n : Int) (h0 : -9223372036854775808 ≤ n) (h1 : n ≤ 9223372036854775807) : (Lib.itoa n).length ≤ 21 := Lib.itoa_length_le n h0 h1

theorem number_any' (n : Int) (h0 : -9223372036854775808 ≤ n) (h1 : n ≤ 9223372036854775807) (w : World) (hD : DL w) :
    Calls Tryz.prog 39 #[.int .i64 n] w fun e w' => e = .returned (.string ⟨(numL n).toArray⟩) ∧ Below w.heap.size w w' := by
  have HF := Lib.hid (itoa_any n h0 h1 w hD)
  have hl := itoa_few n h0 h1
  unfold numL
  clear hD
  generalize Lib.itoa n = l at *
  go_enter Tryz.func39, Tryz.ntmps39
  go_wp2_with (first | (go_at_call 27; refine HF.out.mono ?_; rintro e w1 ⟨rfl, hb⟩; have HB := Lib.hid hb; clear hb) | fail)
  have HC := Lib.hid (bcat [35] l)
  go_ret
  exact ⟨congrArg (fun x => Ending.returned (Value.string x)) HC.out, HB.out⟩

theorem register_any (n : Int) (h0 : -9223372036854775808 ≤ n) (h1 : n ≤ 9223372036854775807) (w : World) (hD : DL w) :
    Calls Tryz.prog 40 #[.int .i64 n] w fun e w' => e = .returned (.string ⟨(regL n).toArray⟩) ∧ Below w.heap.size w w' := by
  have HF := Lib.hid (itoa_any n h0 h1 w hD)
  have hl := itoa_few n h0 h1
  unfold regL
  clear hD
  generalize Lib.itoa n = l at *
  go_enter Tryz.func40, Tryz.ntmps40
  go_wp2_with (first | (go_at_call 27; refine HF.out.mono ?_; rintro e w1 ⟨rfl, hb⟩; have HB := Lib.hid hb; clear hb) | fail)
  have HC := Lib.hid (bcat [114] l)
  go_ret
  exact ⟨congrArg (fun x => Ending.returned (Value.string x)) HC.out, HB.out⟩

theorem place_any (n : Int) (w : World) (h0 : -9223372036854775808 ≤ n) (h1 : n ≤ 9223372036854775807) (hD : DL w) :
    Calls Tryz.prog 14 #[.int .i64 n] w fun e w' => e = .returned (.string ⟨(placeL n).toArray⟩) ∧ Below w.heap.size w w' := by
  have HF := Lib.hid (fmtInt16_any n w h0 h1 hD.tz)
  have hl := hexS_len n
  unfold placeL
  clear hD
  generalize hexS n = l at *
  go_enter Tryz.func14, Tryz.ntmps14
  go_wp2_with (first | (go_at_call 25; refine HF.out.mono ?_; rintro e w1 ⟨rfl, hb⟩; have HB := Lib.hid hb; clear hb) | fail)
  have HC := Lib.hid (bcat [120] l)
  go_ret
  exact ⟨congrArg (fun x => Ending.returned (Value.string x)) HC.out, HB.out⟩

theorem toI_bd (op imm at' : Int) (h0 : 0 ≤ at') (h1 : at' ≤ 1000000000000) (h2 : -10000 ≤ imm) (h3 : imm ≤ 10000) : -9223372036854775808 ≤ toI op imm at' ∧ toI op imm at' ≤ 9223372036854775807 := by
  unfold toI
  split
  · omega
  · split <;> omega

theorem goal_any (op n m imm at' : Int) (w : World) (hD : DL w) (h0 : 0 ≤ at') (h1 : at' ≤ 1000000000000) (h2 : -10000 ≤ imm) (h3 : imm ≤ 10000) :
    Calls Tryz.prog 41 #[.agg #[.int .i64 op, .int .i64 n, .int .i64 m, .int .i64 imm], .int .i64 at'] w fun e w' => e = .returned (.string ⟨(placeL (toI op imm at')).toArray⟩) ∧ Below w.heap.size w w' := by
  have HT := Lib.hid (to_any op n m imm at' (w.alloc (.cells #[.int .i64 op, .int .i64 n, .int .i64 m, .int .i64 imm] 39)) (hD.next (oalloc _ _)).laid h0 h1 h2 h3)
  have HP : Hid (∀ W, Below w.heap.size w W → Calls Tryz.prog 14 #[.int .i64 (toI op imm at')] W fun e w' => e = .returned (.string ⟨(placeL (toI op imm at')).toArray⟩) ∧ Below W.heap.size W w') :=
    fun W hb => place_any _ W (toI_bd op imm at' h0 h1 h2 h3).1 (toI_bd op imm at' h0 h1 h2 h3).2 (hD.next hb)
  clear hD
  generalize toI op imm at' = ti at *
  go_enter Tryz.func41, Tryz.ntmps41
  go_wp2_with (first | (go_at_call 8; refine HT.out.mono ?_; rintro e W1 ⟨rfl, hb1⟩; have HB1 := Lib.hid ((oalloc w (.cells #[.int .i64 op, .int .i64 n, .int .i64 m, .int .i64 imm] 39)).trans (hb1.mono (by simp))); clear hb1) | (go_at_call 14; refine (HP.out _ HB1.out).mono ?_; rintro e W2 ⟨rfl, hb2⟩; have HB2 := Lib.hid (HB1.out.trans (hb2.mono HB1.out.size)); clear hb2) | fail)
  go_ret
  exact ⟨rfl, HB2.out⟩

end Go.Proofs.YtjmjhbdlbmnllaaGreatDoor.Di

namespace Go.Proofs.YtjmjhbdlbmnllaaGreatDoor.Di
open Go.RowKit Isa

/-- A box of an instruction in a world that has grown. -/
def insBox (w : World) (a b c d : Value) (w' : World) : Prop :=
  w.heap.size < w'.heap.size ∧ w'.cell? ⟨w.heap.size, 0, none⟩ = some a ∧ w'.cell? ⟨w.heap.size, 1, none⟩ = some b ∧ w'.cell? ⟨w.heap.size, 2, none⟩ = some c ∧ w'.cell? ⟨w.heap.size, 3, none⟩ = some d ∧ Below w.heap.size w w'

/-- A callee's text, wherever it is called in a world that has grown. -/
def Says (w : World) (f : Nat) (args : Array Value) (l : List UInt8) : Prop :=
  ∀ W, Below w.heap.size w W → Calls Tryz.prog f args W fun e w' => e = .returned (.string ⟨l.toArray⟩) ∧ Below W.heap.size W w'

theorem few_cat {a b : List UInt8} (h1 : a.length ≤ 1000) (h2 : b.length ≤ 1000) : ¬ 9223372036854775807 < a.length + b.length := by omega
theorem few_cat1 {a : List UInt8} (h1 : a.length ≤ 1000) : ¬ 9223372036854775807 < a.length + 1 := by omega
theorem few_cat2 {a : List UInt8} (h1 : a.length ≤ 1000) : ¬ 9223372036854775807 < a.length + 2 := by omega
theorem few_1cat {a : List UInt8} (h1 : a.length ≤ 1000) : ¬ 9223372036854775807 < 1 + a.length := by omega

set_option maxRecDepth 100000 in
set_option maxHeartbeats 4000000 in
theorem oper1 (op n m imm at' : Int) (w : World) (l1 l2 : List UInt8) (h1 : l1.length ≤ 100) (h2 : l2.length ≤ 100)
    (H1 : Hid (Says w 39 #[.int .i64 imm] l1)) (H2 : Hid (Says w 40 #[.int .i64 n] l2)) :
    Calls Tryz.prog 21 #[.agg #[.int .i64 op, .int .i64 n, .int .i64 m, .int .i64 imm], .int .i64 1, .int .i64 at'] w fun e w' => e = .returned (.string ⟨(l1 ++ [44] ++ l2).toArray⟩) ∧ Below w.heap.size w w' := by
  obtain ⟨l3, hl3⟩ : ∃ x, x = l1 ++ [44] := ⟨_, rfl⟩
  have hl3' : l3.length ≤ 103 := by rw [hl3]; simp; omega
  have hc1 : (⟨l1.toArray⟩ : ByteArray) ++ ⟨#[44]⟩ = ⟨l3.toArray⟩ := by rw [hl3]; exact bcat l1 [44]
  have hs1 := few_cat1 (a := l1) (by omega)
  rw [← hl3]
  clear hl3
  obtain ⟨l4, hl4⟩ : ∃ x, x = l3 ++ l2 := ⟨_, rfl⟩
  have hc2 : (⟨l3.toArray⟩ : ByteArray) ++ ⟨l2.toArray⟩ = ⟨l4.toArray⟩ := by rw [hl4]; exact bcat l3 l2
  have hs2 := few_cat (a := l3) (b := l2) (by omega) (by omega)
  rw [← hl4]
  clear hl4
  go_enter Tryz.func21, Tryz.ntmps21
  go_wp2_with fail
  go_region_held3 (fun w' => w.heap.size < w'.heap.size ∧ w'.cell? ⟨w.heap.size, 0, none⟩ = some (.int .i64 op) ∧ w'.cell? ⟨w.heap.size, 1, none⟩ = some (.int .i64 n) ∧ w'.cell? ⟨w.heap.size, 2, none⟩ = some (.int .i64 m) ∧ w'.cell? ⟨w.heap.size, 3, none⟩ = some (.int .i64 imm) ∧ Below w.heap.size w w')
    (first | exact keep4 hb2 (show insBox w _ _ _ _ _ from (by assumption)).1 (by assumption) | exact keep4 hb1 (show insBox w _ _ _ _ _ from (by assumption)).1 (by assumption) | (refine ⟨?_, ?_, ?_, ?_, ?_, ((Below.refl _ _).alloc (Nat.le_refl _) _).drew⟩ <;> simp))
    ((first | (go_at_call 39; refine (H1.out _ (show insBox w _ _ _ _ _ from (by assumption)).2.2.2.2.2).mono ?_; rintro e w1 ⟨rfl, hb1⟩) | (go_at_call 40; refine (H2.out _ (show insBox w _ _ _ _ _ from (by assumption)).2.2.2.2.2).mono ?_; rintro e w2 ⟨rfl, hb2⟩)))
  rename_i hH
  have HB := Lib.hid hH.2.2.2.2.2
  clear hH
  go_wp2
  go_ret
  exact ⟨rfl, HB.out⟩

set_option maxRecDepth 100000 in
set_option maxHeartbeats 4000000 in
theorem oper2 (op n m imm at' : Int) (w : World) (l1 l2 : List UInt8) (h1 : l1.length ≤ 100) (h2 : l2.length ≤ 100)
    (H1 : Hid (Says w 40 #[.int .i64 m] l1)) (H2 : Hid (Says w 40 #[.int .i64 n] l2)) :
    Calls Tryz.prog 21 #[.agg #[.int .i64 op, .int .i64 n, .int .i64 m, .int .i64 imm], .int .i64 2, .int .i64 at'] w fun e w' => e = .returned (.string ⟨(l1 ++ [44] ++ l2).toArray⟩) ∧ Below w.heap.size w w' := by
  obtain ⟨l3, hl3⟩ : ∃ x, x = l1 ++ [44] := ⟨_, rfl⟩
  have hl3' : l3.length ≤ 103 := by rw [hl3]; simp; omega
  have hc1 : (⟨l1.toArray⟩ : ByteArray) ++ ⟨#[44]⟩ = ⟨l3.toArray⟩ := by rw [hl3]; exact bcat l1 [44]
  have hs1 := few_cat1 (a := l1) (by omega)
  rw [← hl3]
  clear hl3
  obtain ⟨l4, hl4⟩ : ∃ x, x = l3 ++ l2 := ⟨_, rfl⟩
  have hc2 : (⟨l3.toArray⟩ : ByteArray) ++ ⟨l2.toArray⟩ = ⟨l4.toArray⟩ := by rw [hl4]; exact bcat l3 l2
  have hs2 := few_cat (a := l3) (b := l2) (by omega) (by omega)
  rw [← hl4]
  clear hl4
  go_enter Tryz.func21, Tryz.ntmps21
  go_wp2_with fail
  go_region_held3 (fun w' => w.heap.size < w'.heap.size ∧ w'.cell? ⟨w.heap.size, 0, none⟩ = some (.int .i64 op) ∧ w'.cell? ⟨w.heap.size, 1, none⟩ = some (.int .i64 n) ∧ w'.cell? ⟨w.heap.size, 2, none⟩ = some (.int .i64 m) ∧ w'.cell? ⟨w.heap.size, 3, none⟩ = some (.int .i64 imm) ∧ Below w.heap.size w w')
    (first | exact keep4 hb2 (show insBox w _ _ _ _ _ from (by assumption)).1 (by assumption) | exact keep4 hb1 (show insBox w _ _ _ _ _ from (by assumption)).1 (by assumption) | (refine ⟨?_, ?_, ?_, ?_, ?_, ((Below.refl _ _).alloc (Nat.le_refl _) _).drew⟩ <;> simp))
    ((first | (go_at_call 40; refine (H1.out _ (show insBox w _ _ _ _ _ from (by assumption)).2.2.2.2.2).mono ?_; rintro e w1 ⟨rfl, hb1⟩) | (go_at_call 40; refine (H2.out _ (show insBox w _ _ _ _ _ from (by assumption)).2.2.2.2.2).mono ?_; rintro e w2 ⟨rfl, hb2⟩)))
  rename_i hH
  have HB := Lib.hid hH.2.2.2.2.2
  clear hH
  go_wp2
  go_ret
  exact ⟨rfl, HB.out⟩

set_option maxRecDepth 100000 in
set_option maxHeartbeats 4000000 in
theorem oper7 (op n m imm at' : Int) (w : World) (l1 l2 : List UInt8) (h1 : l1.length ≤ 100) (h2 : l2.length ≤ 100)
    (H1 : Hid (Says w 41 #[.agg #[.int .i64 op, .int .i64 n, .int .i64 m, .int .i64 imm], .int .i64 at'] l1)) (H2 : Hid (Says w 40 #[.int .i64 n] l2)) :
    Calls Tryz.prog 21 #[.agg #[.int .i64 op, .int .i64 n, .int .i64 m, .int .i64 imm], .int .i64 7, .int .i64 at'] w fun e w' => e = .returned (.string ⟨(l1 ++ [44] ++ l2).toArray⟩) ∧ Below w.heap.size w w' := by
  obtain ⟨l3, hl3⟩ : ∃ x, x = l1 ++ [44] := ⟨_, rfl⟩
  have hl3' : l3.length ≤ 103 := by rw [hl3]; simp; omega
  have hc1 : (⟨l1.toArray⟩ : ByteArray) ++ ⟨#[44]⟩ = ⟨l3.toArray⟩ := by rw [hl3]; exact bcat l1 [44]
  have hs1 := few_cat1 (a := l1) (by omega)
  rw [← hl3]
  clear hl3
  obtain ⟨l4, hl4⟩ : ∃ x, x = l3 ++ l2 := ⟨_, rfl⟩
  have hc2 : (⟨l3.toArray⟩ : ByteArray) ++ ⟨l2.toArray⟩ = ⟨l4.toArray⟩ := by rw [hl4]; exact bcat l3 l2
  have hs2 := few_cat (a := l3) (b := l2) (by omega) (by omega)
  rw [← hl4]
  clear hl4
  go_enter Tryz.func21, Tryz.ntmps21
  go_wp2_with fail
  go_region_held3 (fun w' => w.heap.size < w'.heap.size ∧ w'.cell? ⟨w.heap.size, 0, none⟩ = some (.int .i64 op) ∧ w'.cell? ⟨w.heap.size, 1, none⟩ = some (.int .i64 n) ∧ w'.cell? ⟨w.heap.size, 2, none⟩ = some (.int .i64 m) ∧ w'.cell? ⟨w.heap.size, 3, none⟩ = some (.int .i64 imm) ∧ Below w.heap.size w w')
    (first | exact keep4 hb2 (show insBox w _ _ _ _ _ from (by assumption)).1 (by assumption) | exact keep4 hb1 (show insBox w _ _ _ _ _ from (by assumption)).1 (by assumption) | (refine ⟨?_, ?_, ?_, ?_, ?_, ((Below.refl _ _).alloc (Nat.le_refl _) _).drew⟩ <;> simp))
    ((first | (go_at_call 41; refine (H1.out _ (show insBox w _ _ _ _ _ from (by assumption)).2.2.2.2.2).mono ?_; rintro e w1 ⟨rfl, hb1⟩) | (go_at_call 40; refine (H2.out _ (show insBox w _ _ _ _ _ from (by assumption)).2.2.2.2.2).mono ?_; rintro e w2 ⟨rfl, hb2⟩)))
  rename_i hH
  have HB := Lib.hid hH.2.2.2.2.2
  clear hH
  go_wp2
  go_ret
  exact ⟨rfl, HB.out⟩

set_option maxRecDepth 100000 in
set_option maxHeartbeats 4000000 in
theorem oper8 (op n m imm at' : Int) (w : World) (l1 l2 : List UInt8) (h1 : l1.length ≤ 100) (h2 : l2.length ≤ 100)
    (H1 : Hid (Says w 41 #[.agg #[.int .i64 op, .int .i64 n, .int .i64 m, .int .i64 imm], .int .i64 at'] l1)) (H2 : Hid (Says w 40 #[.int .i64 n] l2)) :
    Calls Tryz.prog 21 #[.agg #[.int .i64 op, .int .i64 n, .int .i64 m, .int .i64 imm], .int .i64 8, .int .i64 at'] w fun e w' => e = .returned (.string ⟨(l1 ++ [44] ++ l2).toArray⟩) ∧ Below w.heap.size w w' := by
  obtain ⟨l3, hl3⟩ : ∃ x, x = l1 ++ [44] := ⟨_, rfl⟩
  have hl3' : l3.length ≤ 103 := by rw [hl3]; simp; omega
  have hc1 : (⟨l1.toArray⟩ : ByteArray) ++ ⟨#[44]⟩ = ⟨l3.toArray⟩ := by rw [hl3]; exact bcat l1 [44]
  have hs1 := few_cat1 (a := l1) (by omega)
  rw [← hl3]
  clear hl3
  obtain ⟨l4, hl4⟩ : ∃ x, x = l3 ++ l2 := ⟨_, rfl⟩
  have hc2 : (⟨l3.toArray⟩ : ByteArray) ++ ⟨l2.toArray⟩ = ⟨l4.toArray⟩ := by rw [hl4]; exact bcat l3 l2
  have hs2 := few_cat (a := l3) (b := l2) (by omega) (by omega)
  rw [← hl4]
  clear hl4
  go_enter Tryz.func21, Tryz.ntmps21
  go_wp2_with fail
  go_region_held3 (fun w' => w.heap.size < w'.heap.size ∧ w'.cell? ⟨w.heap.size, 0, none⟩ = some (.int .i64 op) ∧ w'.cell? ⟨w.heap.size, 1, none⟩ = some (.int .i64 n) ∧ w'.cell? ⟨w.heap.size, 2, none⟩ = some (.int .i64 m) ∧ w'.cell? ⟨w.heap.size, 3, none⟩ = some (.int .i64 imm) ∧ Below w.heap.size w w')
    (first | exact keep4 hb2 (show insBox w _ _ _ _ _ from (by assumption)).1 (by assumption) | exact keep4 hb1 (show insBox w _ _ _ _ _ from (by assumption)).1 (by assumption) | (refine ⟨?_, ?_, ?_, ?_, ?_, ((Below.refl _ _).alloc (Nat.le_refl _) _).drew⟩ <;> simp))
    ((first | (go_at_call 41; refine (H1.out _ (show insBox w _ _ _ _ _ from (by assumption)).2.2.2.2.2).mono ?_; rintro e w1 ⟨rfl, hb1⟩) | (go_at_call 40; refine (H2.out _ (show insBox w _ _ _ _ _ from (by assumption)).2.2.2.2.2).mono ?_; rintro e w2 ⟨rfl, hb2⟩)))
  rename_i hH
  have HB := Lib.hid hH.2.2.2.2.2
  clear hH
  go_wp2
  go_ret
  exact ⟨rfl, HB.out⟩

set_option maxRecDepth 100000 in
set_option maxHeartbeats 4000000 in
theorem oper9 (op n m imm at' : Int) (w : World) (l1 l2 : List UInt8) (h1 : l1.length ≤ 100) (h2 : l2.length ≤ 100)
    (H1 : Hid (Says w 40 #[.int .i64 m] l1)) (H2 : Hid (Says w 40 #[.int .i64 n] l2)) :
    Calls Tryz.prog 21 #[.agg #[.int .i64 op, .int .i64 n, .int .i64 m, .int .i64 imm], .int .i64 9, .int .i64 at'] w fun e w' => e = .returned (.string ⟨(l1 ++ [44, 64] ++ l2).toArray⟩) ∧ Below w.heap.size w w' := by
  obtain ⟨l3, hl3⟩ : ∃ x, x = l1 ++ [44, 64] := ⟨_, rfl⟩
  have hl3' : l3.length ≤ 103 := by rw [hl3]; simp; omega
  have hc1 : (⟨l1.toArray⟩ : ByteArray) ++ ⟨#[44, 64]⟩ = ⟨l3.toArray⟩ := by rw [hl3]; exact bcat l1 [44, 64]
  have hs1 := few_cat2 (a := l1) (by omega)
  rw [← hl3]
  clear hl3
  obtain ⟨l4, hl4⟩ : ∃ x, x = l3 ++ l2 := ⟨_, rfl⟩
  have hc2 : (⟨l3.toArray⟩ : ByteArray) ++ ⟨l2.toArray⟩ = ⟨l4.toArray⟩ := by rw [hl4]; exact bcat l3 l2
  have hs2 := few_cat (a := l3) (b := l2) (by omega) (by omega)
  rw [← hl4]
  clear hl4
  go_enter Tryz.func21, Tryz.ntmps21
  go_wp2_with fail
  go_region_held3 (fun w' => w.heap.size < w'.heap.size ∧ w'.cell? ⟨w.heap.size, 0, none⟩ = some (.int .i64 op) ∧ w'.cell? ⟨w.heap.size, 1, none⟩ = some (.int .i64 n) ∧ w'.cell? ⟨w.heap.size, 2, none⟩ = some (.int .i64 m) ∧ w'.cell? ⟨w.heap.size, 3, none⟩ = some (.int .i64 imm) ∧ Below w.heap.size w w')
    (first | exact keep4 hb2 (show insBox w _ _ _ _ _ from (by assumption)).1 (by assumption) | exact keep4 hb1 (show insBox w _ _ _ _ _ from (by assumption)).1 (by assumption) | (refine ⟨?_, ?_, ?_, ?_, ?_, ((Below.refl _ _).alloc (Nat.le_refl _) _).drew⟩ <;> simp))
    ((first | (go_at_call 40; refine (H1.out _ (show insBox w _ _ _ _ _ from (by assumption)).2.2.2.2.2).mono ?_; rintro e w1 ⟨rfl, hb1⟩) | (go_at_call 40; refine (H2.out _ (show insBox w _ _ _ _ _ from (by assumption)).2.2.2.2.2).mono ?_; rintro e w2 ⟨rfl, hb2⟩)))
  rename_i hH
  have HB := Lib.hid hH.2.2.2.2.2
  clear hH
  go_wp2
  go_ret
  exact ⟨rfl, HB.out⟩

set_option maxRecDepth 100000 in
set_option maxHeartbeats 4000000 in
theorem oper10 (op n m imm at' : Int) (w : World) (l1 l2 : List UInt8) (h1 : l1.length ≤ 100) (h2 : l2.length ≤ 100)
    (H1 : Hid (Says w 40 #[.int .i64 m] l1)) (H2 : Hid (Says w 40 #[.int .i64 n] l2)) :
    Calls Tryz.prog 21 #[.agg #[.int .i64 op, .int .i64 n, .int .i64 m, .int .i64 imm], .int .i64 10, .int .i64 at'] w fun e w' => e = .returned (.string ⟨([64] ++ l1 ++ [44] ++ l2).toArray⟩) ∧ Below w.heap.size w w' := by
  obtain ⟨l0, hl0⟩ : ∃ x, x = [64] ++ l1 := ⟨_, rfl⟩
  have hl0' : l0.length ≤ 101 := by rw [hl0]; simp; omega
  have hc0 : (⟨#[64]⟩ : ByteArray) ++ ⟨l1.toArray⟩ = ⟨l0.toArray⟩ := by rw [hl0]; exact bcat [64] l1
  have hs0 := few_1cat (a := l1) (by omega)
  rw [← hl0]
  clear hl0
  obtain ⟨l3, hl3⟩ : ∃ x, x = l0 ++ [44] := ⟨_, rfl⟩
  have hl3' : l3.length ≤ 103 := by rw [hl3]; simp; omega
  have hc1 : (⟨l0.toArray⟩ : ByteArray) ++ ⟨#[44]⟩ = ⟨l3.toArray⟩ := by rw [hl3]; exact bcat l0 [44]
  have hs1 := few_cat1 (a := l0) (by omega)
  rw [← hl3]
  clear hl3
  obtain ⟨l4, hl4⟩ : ∃ x, x = l3 ++ l2 := ⟨_, rfl⟩
  have hc2 : (⟨l3.toArray⟩ : ByteArray) ++ ⟨l2.toArray⟩ = ⟨l4.toArray⟩ := by rw [hl4]; exact bcat l3 l2
  have hs2 := few_cat (a := l3) (b := l2) (by omega) (by omega)
  rw [← hl4]
  clear hl4
  go_enter Tryz.func21, Tryz.ntmps21
  go_wp2_with fail
  go_region_held3 (fun w' => w.heap.size < w'.heap.size ∧ w'.cell? ⟨w.heap.size, 0, none⟩ = some (.int .i64 op) ∧ w'.cell? ⟨w.heap.size, 1, none⟩ = some (.int .i64 n) ∧ w'.cell? ⟨w.heap.size, 2, none⟩ = some (.int .i64 m) ∧ w'.cell? ⟨w.heap.size, 3, none⟩ = some (.int .i64 imm) ∧ Below w.heap.size w w')
    (first | exact keep4 hb2 (show insBox w _ _ _ _ _ from (by assumption)).1 (by assumption) | exact keep4 hb1 (show insBox w _ _ _ _ _ from (by assumption)).1 (by assumption) | (refine ⟨?_, ?_, ?_, ?_, ?_, ((Below.refl _ _).alloc (Nat.le_refl _) _).drew⟩ <;> simp))
    ((first | (go_at_call 40; refine (H1.out _ (show insBox w _ _ _ _ _ from (by assumption)).2.2.2.2.2).mono ?_; rintro e w1 ⟨rfl, hb1⟩) | (go_at_call 40; refine (H2.out _ (show insBox w _ _ _ _ _ from (by assumption)).2.2.2.2.2).mono ?_; rintro e w2 ⟨rfl, hb2⟩)))
  rename_i hH
  have HB := Lib.hid hH.2.2.2.2.2
  clear hH
  go_wp2
  go_ret
  exact ⟨rfl, HB.out⟩

set_option maxRecDepth 100000 in
set_option maxHeartbeats 4000000 in
theorem oper3 (op n m imm at' : Int) (w : World) (l1 : List UInt8)
    (H1 : Hid (Says w 40 #[.int .i64 n] l1)) :
    Calls Tryz.prog 21 #[.agg #[.int .i64 op, .int .i64 n, .int .i64 m, .int .i64 imm], .int .i64 3, .int .i64 at'] w fun e w' => e = .returned (.string ⟨(l1).toArray⟩) ∧ Below w.heap.size w w' := by
  have HB0 := Lib.hid (oalloc w (.cells #[.int .i64 op, .int .i64 n, .int .i64 m, .int .i64 imm] 39))
  go_enter Tryz.func21, Tryz.ntmps21
  go_wp2_with (first | (go_at_call 40; refine (H1.out _ HB0.out).mono ?_; rintro e w1 ⟨rfl, hb1⟩; have HB1 := Lib.hid (HB0.out.trans (hb1.mono (by simp))); clear hb1) | fail)
  go_ret
  exact ⟨rfl, HB1.out⟩

set_option maxRecDepth 100000 in
set_option maxHeartbeats 4000000 in
theorem oper4 (op n m imm at' : Int) (w : World) (l1 : List UInt8)
    (H1 : Hid (Says w 41 #[.agg #[.int .i64 op, .int .i64 n, .int .i64 m, .int .i64 imm], .int .i64 at'] l1)) :
    Calls Tryz.prog 21 #[.agg #[.int .i64 op, .int .i64 n, .int .i64 m, .int .i64 imm], .int .i64 4, .int .i64 at'] w fun e w' => e = .returned (.string ⟨(l1).toArray⟩) ∧ Below w.heap.size w w' := by
  have HB0 := Lib.hid (oalloc w (.cells #[.int .i64 op, .int .i64 n, .int .i64 m, .int .i64 imm] 39))
  go_enter Tryz.func21, Tryz.ntmps21
  go_wp2_with (first | (go_at_call 41; refine (H1.out _ HB0.out).mono ?_; rintro e w1 ⟨rfl, hb1⟩; have HB1 := Lib.hid (HB0.out.trans (hb1.mono (by simp))); clear hb1) | fail)
  go_ret
  exact ⟨rfl, HB1.out⟩

set_option maxRecDepth 100000 in
set_option maxHeartbeats 4000000 in
theorem oper5 (op n m imm at' : Int) (w : World) (l1 : List UInt8)
    (H1 : Hid (Says w 41 #[.agg #[.int .i64 op, .int .i64 n, .int .i64 m, .int .i64 imm], .int .i64 at'] l1)) :
    Calls Tryz.prog 21 #[.agg #[.int .i64 op, .int .i64 n, .int .i64 m, .int .i64 imm], .int .i64 5, .int .i64 at'] w fun e w' => e = .returned (.string ⟨(l1).toArray⟩) ∧ Below w.heap.size w w' := by
  have HB0 := Lib.hid (oalloc w (.cells #[.int .i64 op, .int .i64 n, .int .i64 m, .int .i64 imm] 39))
  go_enter Tryz.func21, Tryz.ntmps21
  go_wp2_with (first | (go_at_call 41; refine (H1.out _ HB0.out).mono ?_; rintro e w1 ⟨rfl, hb1⟩; have HB1 := Lib.hid (HB0.out.trans (hb1.mono (by simp))); clear hb1) | fail)
  go_ret
  exact ⟨rfl, HB1.out⟩

set_option maxRecDepth 100000 in
set_option maxHeartbeats 4000000 in
theorem oper6 (op n m imm at' : Int) (w : World) (l1 : List UInt8) (h1 : l1.length ≤ 100)
    (H1 : Hid (Says w 40 #[.int .i64 n] l1)) :
    Calls Tryz.prog 21 #[.agg #[.int .i64 op, .int .i64 n, .int .i64 m, .int .i64 imm], .int .i64 6, .int .i64 at'] w fun e w' => e = .returned (.string ⟨([64] ++ l1).toArray⟩) ∧ Below w.heap.size w w' := by
  obtain ⟨l0, hl0⟩ : ∃ x, x = [64] ++ l1 := ⟨_, rfl⟩
  have hc0 : (⟨#[64]⟩ : ByteArray) ++ ⟨l1.toArray⟩ = ⟨l0.toArray⟩ := by rw [hl0]; exact bcat [64] l1
  have hs0 := few_1cat (a := l1) (by omega)
  rw [← hl0]
  clear hl0
  have HB0 := Lib.hid (oalloc w (.cells #[.int .i64 op, .int .i64 n, .int .i64 m, .int .i64 imm] 39))
  go_enter Tryz.func21, Tryz.ntmps21
  go_wp2_with (first | (go_at_call 40; refine (H1.out _ HB0.out).mono ?_; rintro e w1 ⟨rfl, hb1⟩; have HB1 := Lib.hid (HB0.out.trans (hb1.mono (by simp))); clear hb1) | fail)
  go_ret
  exact ⟨rfl, HB1.out⟩

set_option maxRecDepth 100000 in
set_option maxHeartbeats 4000000 in
theorem oper11 (op n m imm at' : Int) (w : World) (l1 : List UInt8)
    (H1 : Hid (Says w 39 #[.int .i64 imm] l1)) :
    Calls Tryz.prog 21 #[.agg #[.int .i64 op, .int .i64 n, .int .i64 m, .int .i64 imm], .int .i64 11, .int .i64 at'] w fun e w' => e = .returned (.string ⟨(l1).toArray⟩) ∧ Below w.heap.size w w' := by
  have HB0 := Lib.hid (oalloc w (.cells #[.int .i64 op, .int .i64 n, .int .i64 m, .int .i64 imm] 39))
  go_enter Tryz.func21, Tryz.ntmps21
  go_wp2_with (first | (go_at_call 39; refine (H1.out _ HB0.out).mono ?_; rintro e w1 ⟨rfl, hb1⟩; have HB1 := Lib.hid (HB0.out.trans (hb1.mono (by simp))); clear hb1) | fail)
  go_ret
  exact ⟨rfl, HB1.out⟩

end Go.Proofs.YtjmjhbdlbmnllaaGreatDoor.Di

namespace Go.Proofs.YtjmjhbdlbmnllaaGreatDoor.Di
open Go.RowKit Isa

theorem shape_bd (op : Int) : 0 ≤ infoShape op ∧ infoShape op ≤ 11 := by
  unfold infoShape
  split
  · rename_i h
    simp [knownB, withinB] at h
    obtain ⟨k, rfl⟩ : ∃ k : Nat, op = k := ⟨op.toNat, by omega⟩
    have h' : ∀ j : Fin 28, 0 ≤ opShape (j.val : Int) ∧ opShape (j.val : Int) ≤ 11 := by decide
    exact h' ⟨k, by omega⟩
  · omega
theorem name_few (op : Int) : (infoName op).data.toList.length ≤ 20 := by
  unfold infoName
  split
  · rename_i h
    simp [knownB, withinB] at h
    obtain ⟨k, rfl⟩ : ∃ k : Nat, op = k := ⟨op.toNat, by omega⟩
    have h' : ∀ j : Fin 28, (opName (j.val : Int)).data.toList.length ≤ 20 := by decide
    exact h' ⟨k, by omega⟩
  · simp
theorem regL_few (n : Int) (h0 : -10000 ≤ n) (h1 : n ≤ 10000) : (regL n).length ≤ 22 := by
  have := itoa_few n (by omega) (by omega)
  simp [regL]; omega
theorem numL_few (n : Int) (h0 : -10000 ≤ n) (h1 : n ≤ 10000) : (numL n).length ≤ 22 := by
  have := itoa_few n (by omega) (by omega)
  simp [numL]; omega
theorem placeL_few (n : Int) : (placeL n).length ≤ 18 := by
  have := hexS_len n
  simp [placeL]; omega
theorem operL_few (s n m imm p : Int) (hn0 : 0 ≤ n) (hn1 : n ≤ 15) (hm0 : 0 ≤ m) (hm1 : m ≤ 15) (h2 : -10000 ≤ imm) (h3 : imm ≤ 10000) : (operL s n m imm p).length ≤ 50 := by
  have e1 := regL_few n (by omega) (by omega)
  have e2 := regL_few m (by omega) (by omega)
  have e3 := numL_few imm h2 h3
  have e4 := placeL_few p
  unfold operL
  repeat' split
  all_goals ((try simp only [List.length_append, List.length_cons, List.length_nil]); omega)

theorem oper_any (op n m imm at' : Int) (w : World) (hD : DL w) (h0 : 0 ≤ at') (h1 : at' ≤ 1000000000000) (hn0 : 0 ≤ n) (hn1 : n ≤ 15) (hm0 : 0 ≤ m) (hm1 : m ≤ 15) (h2 : -10000 ≤ imm) (h3 : imm ≤ 10000) (hs : infoShape op ≠ 0) :
    Calls Tryz.prog 21 #[.agg #[.int .i64 op, .int .i64 n, .int .i64 m, .int .i64 imm], .int .i64 (infoShape op), .int .i64 at'] w fun e w' => e = .returned (.string ⟨(operL (infoShape op) n m imm (toI op imm at')).toArray⟩) ∧ Below w.heap.size w w' := by
  have HN : Hid (Says w 40 #[.int .i64 n] (regL n)) := fun W hb => register_any n (by omega) (by omega) W (hD.next hb)
  have HM : Hid (Says w 40 #[.int .i64 m] (regL m)) := fun W hb => register_any m (by omega) (by omega) W (hD.next hb)
  have HI : Hid (Says w 39 #[.int .i64 imm] (numL imm)) := fun W hb => number_any' imm (by omega) (by omega) W (hD.next hb)
  have HP : Hid (Says w 41 #[.agg #[.int .i64 op, .int .i64 n, .int .i64 m, .int .i64 imm], .int .i64 at'] (placeL (toI op imm at'))) := fun W hb => goal_any op n m imm at' W (hD.next hb) h0 h1 h2 h3
  have e1 := regL_few n (by omega) (by omega)
  have e2 := regL_few m (by omega) (by omega)
  have e3 := numL_few imm h2 h3
  have e4 := placeL_few (toI op imm at')
  have hb := shape_bd op
  generalize infoShape op = s at *
  generalize toI op imm at' = p at *
  obtain rfl | rfl | rfl | rfl | rfl | rfl | rfl | rfl | rfl | rfl | rfl : s = 1 ∨ s = 2 ∨ s = 3 ∨ s = 4 ∨ s = 5 ∨ s = 6 ∨ s = 7 ∨ s = 8 ∨ s = 9 ∨ s = 10 ∨ s = 11 := by omega
  · exact oper1 op n m imm at' w _ _ (by omega) (by omega) HI HN
  · exact oper2 op n m imm at' w _ _ (by omega) (by omega) HM HN
  · exact oper3 op n m imm at' w _ HN
  · exact oper4 op n m imm at' w _ HP
  · exact oper5 op n m imm at' w _ HP
  · exact oper6 op n m imm at' w _ (by omega) HN
  · exact oper7 op n m imm at' w _ _ (by omega) (by omega) HP HN
  · exact oper8 op n m imm at' w _ _ (by omega) (by omega) HP HN
  · exact oper9 op n m imm at' w _ _ (by omega) (by omega) HM HN
  · exact oper10 op n m imm at' w _ _ (by omega) (by omega) HM HN
  · exact oper11 op n m imm at' w _ HI

set_option maxRecDepth 100000 in
set_option maxHeartbeats 4000000 in
theorem line_any (op n m imm at' : Int) (w : World) (hD : DL w) (h0 : 0 ≤ at') (h1 : at' ≤ 1000000000000) (hn0 : 0 ≤ n) (hn1 : n ≤ 15) (hm0 : 0 ≤ m) (hm1 : m ≤ 15) (h2 : -10000 ≤ imm) (h3 : imm ≤ 10000) :
    Calls Tryz.prog 9 #[.agg #[.int .i64 op, .int .i64 n, .int .i64 m, .int .i64 imm], .int .i64 at'] w fun e w' => e = .returned (.string ⟨(lineL op n m imm at').toArray⟩) ∧ Below w.heap.size w w' := by
  obtain ⟨nl, hnl⟩ : ∃ x, x = (infoName op).data.toList := ⟨_, rfl⟩
  have hnl' : infoName op = ⟨nl.toArray⟩ := by rw [hnl]
  have hnf : nl.length ≤ 20 := by rw [hnl]; exact name_few op
  have HB0 := Lib.hid (oalloc w (.cells #[.int .i64 op, .int .i64 n, .int .i64 m, .int .i64 imm] 39))
  have HI := Lib.hid (info_any op (w.alloc (.cells #[.int .i64 op, .int .i64 n, .int .i64 m, .int .i64 imm] 39)) (hD.next HB0.out).laid)
  rw [hnl'] at HI
  have HO : Hid (infoShape op ≠ 0 → ∀ W, Below w.heap.size w W → Calls Tryz.prog 21 #[.agg #[.int .i64 op, .int .i64 n, .int .i64 m, .int .i64 imm], .int .i64 (infoShape op), .int .i64 at'] W fun e w' => e = .returned (.string ⟨(operL (infoShape op) n m imm (toI op imm at')).toArray⟩) ∧ Below W.heap.size W w') := fun hs W hb =>
    oper_any op n m imm at' W (hD.next hb) h0 h1 hn0 hn1 hm0 hm1 h2 h3 hs
  have hof := operL_few (infoShape op) n m imm (toI op imm at') hn0 hn1 hm0 hm1 h2 h3
  unfold lineL
  rw [← hnl]
  clear hnl hnl' hD
  generalize toI op imm at' = p at *
  generalize infoShape op = s at *
  generalize operL s n m imm p = ol at *
  by_cases hs : s = 0
  · subst hs
    rw [if_pos rfl]
    clear HO
    go_enter Tryz.func9, Tryz.ntmps9
    go_wp2_with (first | (go_at_call 20; refine HI.out.mono ?_; rintro e W1 ⟨rfl, hb1⟩; have HB1 := Lib.hid (HB0.out.trans (hb1.mono (by simp))); clear hb1) | fail)
    go_ret
    exact ⟨rfl, HB1.out⟩
  · rw [if_neg hs]
    have HO := Lib.hid (HO.out hs)
    have hs' : (s == 0) = false := by simp [hs]
    obtain ⟨l3, hl3⟩ : ∃ x, x = nl ++ [32] := ⟨_, rfl⟩
    have hl3' : l3.length ≤ 103 := by rw [hl3]; simp; omega
    have hc1 : (⟨nl.toArray⟩ : ByteArray) ++ ⟨#[32]⟩ = ⟨l3.toArray⟩ := by rw [hl3]; exact bcat nl [32]
    have hs1 := few_cat1 (a := nl) (by omega)
    rw [← hl3]
    clear hl3
    obtain ⟨l4, hl4⟩ : ∃ x, x = l3 ++ ol := ⟨_, rfl⟩
    have hc2 : (⟨l3.toArray⟩ : ByteArray) ++ ⟨ol.toArray⟩ = ⟨l4.toArray⟩ := by rw [hl4]; exact bcat l3 ol
    have hs2 := few_cat (a := l3) (b := ol) (by omega) (by omega)
    rw [← hl4]
    clear hl4
    go_enter Tryz.func9, Tryz.ntmps9
    go_wp2_with (first | (go_at_call 20; refine HI.out.mono ?_; rintro e W1 ⟨rfl, hb1⟩; have c0 : W1.cell? ⟨w.heap.size, 0, none⟩ = some (.int .i64 op) := (hb1.cell (p := ⟨w.heap.size, 0, none⟩) (by simp)).trans (by simp); have c1 : W1.cell? ⟨w.heap.size, 1, none⟩ = some (.int .i64 n) := (hb1.cell (p := ⟨w.heap.size, 1, none⟩) (by simp)).trans (by simp); have c2 : W1.cell? ⟨w.heap.size, 2, none⟩ = some (.int .i64 m) := (hb1.cell (p := ⟨w.heap.size, 2, none⟩) (by simp)).trans (by simp); have c3 : W1.cell? ⟨w.heap.size, 3, none⟩ = some (.int .i64 imm) := (hb1.cell (p := ⟨w.heap.size, 3, none⟩) (by simp)).trans (by simp); have HB1 := Lib.hid (HB0.out.trans (hb1.mono (by simp))); clear hb1) | (go_at_call 21; refine (HO.out _ HB1.out).mono ?_; rintro e W2 ⟨rfl, hb2⟩; have HB2 := Lib.hid (HB1.out.trans (hb2.mono HB1.out.size)); clear hb2) | fail)
    go_ret
    exact ⟨rfl, HB2.out⟩

end Go.Proofs.YtjmjhbdlbmnllaaGreatDoor.Di
