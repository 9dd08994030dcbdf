/- The contracts of the program's operands and Line. -/
import Derived.Test.YtgadpimknobljaaDoorDsA
namespace Go.Proofs.YtgadpimknobljaaDoor
open Go.RowKit Isa

/-- A box of an instruction in a world that has grown. -/
def insBox (w : World) (a b c d : Value) (w' : World) : Prop :=
  w.heap.size < w'.heap.size ∧ w'.cell? ⟨w.heap.size, 0, none⟩ = some a ∧ w'.cell? ⟨w.heap.size, 1, none⟩ = some b ∧ w'.cell? ⟨w.heap.size, 2, none⟩ = some c ∧ w'.cell? ⟨w.heap.size, 3, none⟩ = some d ∧ Below w.heap.size w w'

/-- A callee's text, wherever it is called in a world that has grown. -/
def Says (w : World) (f : Nat) (args : Array Value) (l : List UInt8) : Prop :=
  ∀ W, Below w.heap.size w W → Calls Tryd.prog f args W fun e w' => e = .returned (.string ⟨l.toArray⟩) ∧ Below W.heap.size W w'

theorem few_cat {a b : List UInt8} (h1 : a.length ≤ 1000) (h2 : b.length ≤ 1000) : ¬ 9223372036854775807 < a.length + b.length := by omega
theorem few_cat1 {a : List UInt8} (h1 : a.length ≤ 1000) : ¬ 9223372036854775807 < a.length + 1 := by omega
theorem few_cat2 {a : List UInt8} (h1 : a.length ≤ 1000) : ¬ 9223372036854775807 < a.length + 2 := by omega
theorem few_1cat {a : List UInt8} (h1 : a.length ≤ 1000) : ¬ 9223372036854775807 < 1 + a.length := by omega

set_option maxHeartbeats 4000000 in
theorem oper1 (op n m imm at' : Int) (w : World) (l1 l2 : List UInt8) (h1 : l1.length ≤ 100) (h2 : l2.length ≤ 100)
    (H1 : Hid (Says w 34 #[.int .i64 imm] l1)) (H2 : Hid (Says w 35 #[.int .i64 n] l2)) :
    Calls Tryd.prog 25 #[.agg #[.int .i64 op, .int .i64 n, .int .i64 m, .int .i64 imm], .int .i64 1, .int .i64 at'] w fun e w' => e = .returned (.string ⟨(l1 ++ [44] ++ l2).toArray⟩) ∧ Below w.heap.size w w' := by
  obtain ⟨l3, hl3⟩ : ∃ x, x = l1 ++ [44] := ⟨_, rfl⟩
  have hl3' : l3.length ≤ 103 := by rw [hl3]; simp; omega
  have hc1 : (⟨l1.toArray⟩ : ByteArray) ++ ⟨#[44]⟩ = ⟨l3.toArray⟩ := by rw [hl3]; exact bcat l1 [44]
  have hs1 := few_cat1 (a := l1) (by omega)
  rw [← hl3]
  clear hl3
  obtain ⟨l4, hl4⟩ : ∃ x, x = l3 ++ l2 := ⟨_, rfl⟩
  have hc2 : (⟨l3.toArray⟩ : ByteArray) ++ ⟨l2.toArray⟩ = ⟨l4.toArray⟩ := by rw [hl4]; exact bcat l3 l2
  have hs2 := few_cat (a := l3) (b := l2) (by omega) (by omega)
  rw [← hl4]
  clear hl4
  go_enter Tryd.func25, Tryd.ntmps25
  go_wp2_with fail
  go_region_held3 (fun w' => w.heap.size < w'.heap.size ∧ w'.cell? ⟨w.heap.size, 0, none⟩ = some (.int .i64 op) ∧ w'.cell? ⟨w.heap.size, 1, none⟩ = some (.int .i64 n) ∧ w'.cell? ⟨w.heap.size, 2, none⟩ = some (.int .i64 m) ∧ w'.cell? ⟨w.heap.size, 3, none⟩ = some (.int .i64 imm) ∧ Below w.heap.size w w')
    (first | exact keep4 hb2 (show insBox w _ _ _ _ _ from (by assumption)).1 (by assumption) | exact keep4 hb1 (show insBox w _ _ _ _ _ from (by assumption)).1 (by assumption) | (refine ⟨?_, ?_, ?_, ?_, ?_, ((Below.refl _ _).alloc (Nat.le_refl _) _).drew⟩ <;> simp))
    ((first | (go_at_call 34; refine (H1.out _ (show insBox w _ _ _ _ _ from (by assumption)).2.2.2.2.2).mono ?_; rintro e w1 ⟨rfl, hb1⟩) | (go_at_call 35; refine (H2.out _ (show insBox w _ _ _ _ _ from (by assumption)).2.2.2.2.2).mono ?_; rintro e w2 ⟨rfl, hb2⟩)))
  rename_i hH
  have HB := Lib.hid hH.2.2.2.2.2
  clear hH
  go_wp2
  go_ret
  exact ⟨rfl, HB.out⟩

set_option maxHeartbeats 4000000 in
theorem oper2 (op n m imm at' : Int) (w : World) (l1 l2 : List UInt8) (h1 : l1.length ≤ 100) (h2 : l2.length ≤ 100)
    (H1 : Hid (Says w 35 #[.int .i64 m] l1)) (H2 : Hid (Says w 35 #[.int .i64 n] l2)) :
    Calls Tryd.prog 25 #[.agg #[.int .i64 op, .int .i64 n, .int .i64 m, .int .i64 imm], .int .i64 2, .int .i64 at'] w fun e w' => e = .returned (.string ⟨(l1 ++ [44] ++ l2).toArray⟩) ∧ Below w.heap.size w w' := by
  obtain ⟨l3, hl3⟩ : ∃ x, x = l1 ++ [44] := ⟨_, rfl⟩
  have hl3' : l3.length ≤ 103 := by rw [hl3]; simp; omega
  have hc1 : (⟨l1.toArray⟩ : ByteArray) ++ ⟨#[44]⟩ = ⟨l3.toArray⟩ := by rw [hl3]; exact bcat l1 [44]
  have hs1 := few_cat1 (a := l1) (by omega)
  rw [← hl3]
  clear hl3
  obtain ⟨l4, hl4⟩ : ∃ x, x = l3 ++ l2 := ⟨_, rfl⟩
  have hc2 : (⟨l3.toArray⟩ : ByteArray) ++ ⟨l2.toArray⟩ = ⟨l4.toArray⟩ := by rw [hl4]; exact bcat l3 l2
  have hs2 := few_cat (a := l3) (b := l2) (by omega) (by omega)
  rw [← hl4]
  clear hl4
  go_enter Tryd.func25, Tryd.ntmps25
  go_wp2_with fail
  go_region_held3 (fun w' => w.heap.size < w'.heap.size ∧ w'.cell? ⟨w.heap.size, 0, none⟩ = some (.int .i64 op) ∧ w'.cell? ⟨w.heap.size, 1, none⟩ = some (.int .i64 n) ∧ w'.cell? ⟨w.heap.size, 2, none⟩ = some (.int .i64 m) ∧ w'.cell? ⟨w.heap.size, 3, none⟩ = some (.int .i64 imm) ∧ Below w.heap.size w w')
    (first | exact keep4 hb2 (show insBox w _ _ _ _ _ from (by assumption)).1 (by assumption) | exact keep4 hb1 (show insBox w _ _ _ _ _ from (by assumption)).1 (by assumption) | (refine ⟨?_, ?_, ?_, ?_, ?_, ((Below.refl _ _).alloc (Nat.le_refl _) _).drew⟩ <;> simp))
    ((first | (go_at_call 35; refine (H1.out _ (show insBox w _ _ _ _ _ from (by assumption)).2.2.2.2.2).mono ?_; rintro e w1 ⟨rfl, hb1⟩) | (go_at_call 35; refine (H2.out _ (show insBox w _ _ _ _ _ from (by assumption)).2.2.2.2.2).mono ?_; rintro e w2 ⟨rfl, hb2⟩)))
  rename_i hH
  have HB := Lib.hid hH.2.2.2.2.2
  clear hH
  go_wp2
  go_ret
  exact ⟨rfl, HB.out⟩

set_option maxHeartbeats 4000000 in
theorem oper7 (op n m imm at' : Int) (w : World) (l1 l2 : List UInt8) (h1 : l1.length ≤ 100) (h2 : l2.length ≤ 100)
    (H1 : Hid (Says w 36 #[.agg #[.int .i64 op, .int .i64 n, .int .i64 m, .int .i64 imm], .int .i64 at'] l1)) (H2 : Hid (Says w 35 #[.int .i64 n] l2)) :
    Calls Tryd.prog 25 #[.agg #[.int .i64 op, .int .i64 n, .int .i64 m, .int .i64 imm], .int .i64 7, .int .i64 at'] w fun e w' => e = .returned (.string ⟨(l1 ++ [44] ++ l2).toArray⟩) ∧ Below w.heap.size w w' := by
  obtain ⟨l3, hl3⟩ : ∃ x, x = l1 ++ [44] := ⟨_, rfl⟩
  have hl3' : l3.length ≤ 103 := by rw [hl3]; simp; omega
  have hc1 : (⟨l1.toArray⟩ : ByteArray) ++ ⟨#[44]⟩ = ⟨l3.toArray⟩ := by rw [hl3]; exact bcat l1 [44]
  have hs1 := few_cat1 (a := l1) (by omega)
  rw [← hl3]
  clear hl3
  obtain ⟨l4, hl4⟩ : ∃ x, x = l3 ++ l2 := ⟨_, rfl⟩
  have hc2 : (⟨l3.toArray⟩ : ByteArray) ++ ⟨l2.toArray⟩ = ⟨l4.toArray⟩ := by rw [hl4]; exact bcat l3 l2
  have hs2 := few_cat (a := l3) (b := l2) (by omega) (by omega)
  rw [← hl4]
  clear hl4
  go_enter Tryd.func25, Tryd.ntmps25
  go_wp2_with fail
  go_region_held3 (fun w' => w.heap.size < w'.heap.size ∧ w'.cell? ⟨w.heap.size, 0, none⟩ = some (.int .i64 op) ∧ w'.cell? ⟨w.heap.size, 1, none⟩ = some (.int .i64 n) ∧ w'.cell? ⟨w.heap.size, 2, none⟩ = some (.int .i64 m) ∧ w'.cell? ⟨w.heap.size, 3, none⟩ = some (.int .i64 imm) ∧ Below w.heap.size w w')
    (first | exact keep4 hb2 (show insBox w _ _ _ _ _ from (by assumption)).1 (by assumption) | exact keep4 hb1 (show insBox w _ _ _ _ _ from (by assumption)).1 (by assumption) | (refine ⟨?_, ?_, ?_, ?_, ?_, ((Below.refl _ _).alloc (Nat.le_refl _) _).drew⟩ <;> simp))
    ((first | (go_at_call 36; refine (H1.out _ (show insBox w _ _ _ _ _ from (by assumption)).2.2.2.2.2).mono ?_; rintro e w1 ⟨rfl, hb1⟩) | (go_at_call 35; refine (H2.out _ (show insBox w _ _ _ _ _ from (by assumption)).2.2.2.2.2).mono ?_; rintro e w2 ⟨rfl, hb2⟩)))
  rename_i hH
  have HB := Lib.hid hH.2.2.2.2.2
  clear hH
  go_wp2
  go_ret
  exact ⟨rfl, HB.out⟩

set_option maxHeartbeats 4000000 in
theorem oper8 (op n m imm at' : Int) (w : World) (l1 l2 : List UInt8) (h1 : l1.length ≤ 100) (h2 : l2.length ≤ 100)
    (H1 : Hid (Says w 36 #[.agg #[.int .i64 op, .int .i64 n, .int .i64 m, .int .i64 imm], .int .i64 at'] l1)) (H2 : Hid (Says w 35 #[.int .i64 n] l2)) :
    Calls Tryd.prog 25 #[.agg #[.int .i64 op, .int .i64 n, .int .i64 m, .int .i64 imm], .int .i64 8, .int .i64 at'] w fun e w' => e = .returned (.string ⟨(l1 ++ [44] ++ l2).toArray⟩) ∧ Below w.heap.size w w' := by
  obtain ⟨l3, hl3⟩ : ∃ x, x = l1 ++ [44] := ⟨_, rfl⟩
  have hl3' : l3.length ≤ 103 := by rw [hl3]; simp; omega
  have hc1 : (⟨l1.toArray⟩ : ByteArray) ++ ⟨#[44]⟩ = ⟨l3.toArray⟩ := by rw [hl3]; exact bcat l1 [44]
  have hs1 := few_cat1 (a := l1) (by omega)
  rw [← hl3]
  clear hl3
  obtain ⟨l4, hl4⟩ : ∃ x, x = l3 ++ l2 := ⟨_, rfl⟩
  have hc2 : (⟨l3.toArray⟩ : ByteArray) ++ ⟨l2.toArray⟩ = ⟨l4.toArray⟩ := by rw [hl4]; exact bcat l3 l2
  have hs2 := few_cat (a := l3) (b := l2) (by omega) (by omega)
  rw [← hl4]
  clear hl4
  go_enter Tryd.func25, Tryd.ntmps25
  go_wp2_with fail
  go_region_held3 (fun w' => w.heap.size < w'.heap.size ∧ w'.cell? ⟨w.heap.size, 0, none⟩ = some (.int .i64 op) ∧ w'.cell? ⟨w.heap.size, 1, none⟩ = some (.int .i64 n) ∧ w'.cell? ⟨w.heap.size, 2, none⟩ = some (.int .i64 m) ∧ w'.cell? ⟨w.heap.size, 3, none⟩ = some (.int .i64 imm) ∧ Below w.heap.size w w')
    (first | exact keep4 hb2 (show insBox w _ _ _ _ _ from (by assumption)).1 (by assumption) | exact keep4 hb1 (show insBox w _ _ _ _ _ from (by assumption)).1 (by assumption) | (refine ⟨?_, ?_, ?_, ?_, ?_, ((Below.refl _ _).alloc (Nat.le_refl _) _).drew⟩ <;> simp))
    ((first | (go_at_call 36; refine (H1.out _ (show insBox w _ _ _ _ _ from (by assumption)).2.2.2.2.2).mono ?_; rintro e w1 ⟨rfl, hb1⟩) | (go_at_call 35; refine (H2.out _ (show insBox w _ _ _ _ _ from (by assumption)).2.2.2.2.2).mono ?_; rintro e w2 ⟨rfl, hb2⟩)))
  rename_i hH
  have HB := Lib.hid hH.2.2.2.2.2
  clear hH
  go_wp2
  go_ret
  exact ⟨rfl, HB.out⟩

set_option maxHeartbeats 4000000 in
theorem oper9 (op n m imm at' : Int) (w : World) (l1 l2 : List UInt8) (h1 : l1.length ≤ 100) (h2 : l2.length ≤ 100)
    (H1 : Hid (Says w 35 #[.int .i64 m] l1)) (H2 : Hid (Says w 35 #[.int .i64 n] l2)) :
    Calls Tryd.prog 25 #[.agg #[.int .i64 op, .int .i64 n, .int .i64 m, .int .i64 imm], .int .i64 9, .int .i64 at'] w fun e w' => e = .returned (.string ⟨(l1 ++ [44, 64] ++ l2).toArray⟩) ∧ Below w.heap.size w w' := by
  obtain ⟨l3, hl3⟩ : ∃ x, x = l1 ++ [44, 64] := ⟨_, rfl⟩
  have hl3' : l3.length ≤ 103 := by rw [hl3]; simp; omega
  have hc1 : (⟨l1.toArray⟩ : ByteArray) ++ ⟨#[44, 64]⟩ = ⟨l3.toArray⟩ := by rw [hl3]; exact bcat l1 [44, 64]
  have hs1 := few_cat2 (a := l1) (by omega)
  rw [← hl3]
  clear hl3
  obtain ⟨l4, hl4⟩ : ∃ x, x = l3 ++ l2 := ⟨_, rfl⟩
  have hc2 : (⟨l3.toArray⟩ : ByteArray) ++ ⟨l2.toArray⟩ = ⟨l4.toArray⟩ := by rw [hl4]; exact bcat l3 l2
  have hs2 := few_cat (a := l3) (b := l2) (by omega) (by omega)
  rw [← hl4]
  clear hl4
  go_enter Tryd.func25, Tryd.ntmps25
  go_wp2_with fail
  go_region_held3 (fun w' => w.heap.size < w'.heap.size ∧ w'.cell? ⟨w.heap.size, 0, none⟩ = some (.int .i64 op) ∧ w'.cell? ⟨w.heap.size, 1, none⟩ = some (.int .i64 n) ∧ w'.cell? ⟨w.heap.size, 2, none⟩ = some (.int .i64 m) ∧ w'.cell? ⟨w.heap.size, 3, none⟩ = some (.int .i64 imm) ∧ Below w.heap.size w w')
    (first | exact keep4 hb2 (show insBox w _ _ _ _ _ from (by assumption)).1 (by assumption) | exact keep4 hb1 (show insBox w _ _ _ _ _ from (by assumption)).1 (by assumption) | (refine ⟨?_, ?_, ?_, ?_, ?_, ((Below.refl _ _).alloc (Nat.le_refl _) _).drew⟩ <;> simp))
    ((first | (go_at_call 35; refine (H1.out _ (show insBox w _ _ _ _ _ from (by assumption)).2.2.2.2.2).mono ?_; rintro e w1 ⟨rfl, hb1⟩) | (go_at_call 35; refine (H2.out _ (show insBox w _ _ _ _ _ from (by assumption)).2.2.2.2.2).mono ?_; rintro e w2 ⟨rfl, hb2⟩)))
  rename_i hH
  have HB := Lib.hid hH.2.2.2.2.2
  clear hH
  go_wp2
  go_ret
  exact ⟨rfl, HB.out⟩

set_option maxHeartbeats 4000000 in
theorem oper10 (op n m imm at' : Int) (w : World) (l1 l2 : List UInt8) (h1 : l1.length ≤ 100) (h2 : l2.length ≤ 100)
    (H1 : Hid (Says w 35 #[.int .i64 m] l1)) (H2 : Hid (Says w 35 #[.int .i64 n] l2)) :
    Calls Tryd.prog 25 #[.agg #[.int .i64 op, .int .i64 n, .int .i64 m, .int .i64 imm], .int .i64 10, .int .i64 at'] w fun e w' => e = .returned (.string ⟨([64] ++ l1 ++ [44] ++ l2).toArray⟩) ∧ Below w.heap.size w w' := by
  obtain ⟨l0, hl0⟩ : ∃ x, x = [64] ++ l1 := ⟨_, rfl⟩
  have hl0' : l0.length ≤ 101 := by rw [hl0]; simp; omega
  have hc0 : (⟨#[64]⟩ : ByteArray) ++ ⟨l1.toArray⟩ = ⟨l0.toArray⟩ := by rw [hl0]; exact bcat [64] l1
  have hs0 := few_1cat (a := l1) (by omega)
  rw [← hl0]
  clear hl0
  obtain ⟨l3, hl3⟩ : ∃ x, x = l0 ++ [44] := ⟨_, rfl⟩
  have hl3' : l3.length ≤ 103 := by rw [hl3]; simp; omega
  have hc1 : (⟨l0.toArray⟩ : ByteArray) ++ ⟨#[44]⟩ = ⟨l3.toArray⟩ := by rw [hl3]; exact bcat l0 [44]
  have hs1 := few_cat1 (a := l0) (by omega)
  rw [← hl3]
  clear hl3
  obtain ⟨l4, hl4⟩ : ∃ x, x = l3 ++ l2 := ⟨_, rfl⟩
  have hc2 : (⟨l3.toArray⟩ : ByteArray) ++ ⟨l2.toArray⟩ = ⟨l4.toArray⟩ := by rw [hl4]; exact bcat l3 l2
  have hs2 := few_cat (a := l3) (b := l2) (by omega) (by omega)
  rw [← hl4]
  clear hl4
  go_enter Tryd.func25, Tryd.ntmps25
  go_wp2_with fail
  go_region_held3 (fun w' => w.heap.size < w'.heap.size ∧ w'.cell? ⟨w.heap.size, 0, none⟩ = some (.int .i64 op) ∧ w'.cell? ⟨w.heap.size, 1, none⟩ = some (.int .i64 n) ∧ w'.cell? ⟨w.heap.size, 2, none⟩ = some (.int .i64 m) ∧ w'.cell? ⟨w.heap.size, 3, none⟩ = some (.int .i64 imm) ∧ Below w.heap.size w w')
    (first | exact keep4 hb2 (show insBox w _ _ _ _ _ from (by assumption)).1 (by assumption) | exact keep4 hb1 (show insBox w _ _ _ _ _ from (by assumption)).1 (by assumption) | (refine ⟨?_, ?_, ?_, ?_, ?_, ((Below.refl _ _).alloc (Nat.le_refl _) _).drew⟩ <;> simp))
    ((first | (go_at_call 35; refine (H1.out _ (show insBox w _ _ _ _ _ from (by assumption)).2.2.2.2.2).mono ?_; rintro e w1 ⟨rfl, hb1⟩) | (go_at_call 35; refine (H2.out _ (show insBox w _ _ _ _ _ from (by assumption)).2.2.2.2.2).mono ?_; rintro e w2 ⟨rfl, hb2⟩)))
  rename_i hH
  have HB := Lib.hid hH.2.2.2.2.2
  clear hH
  go_wp2
  go_ret
  exact ⟨rfl, HB.out⟩

set_option maxHeartbeats 4000000 in
theorem oper3 (op n m imm at' : Int) (w : World) (l1 : List UInt8)
    (H1 : Hid (Says w 35 #[.int .i64 n] l1)) :
    Calls Tryd.prog 25 #[.agg #[.int .i64 op, .int .i64 n, .int .i64 m, .int .i64 imm], .int .i64 3, .int .i64 at'] w fun e w' => e = .returned (.string ⟨(l1).toArray⟩) ∧ Below w.heap.size w w' := by
  have HB0 := Lib.hid (oalloc w (.cells #[.int .i64 op, .int .i64 n, .int .i64 m, .int .i64 imm] 24))
  go_enter Tryd.func25, Tryd.ntmps25
  go_wp2_with (first | (go_at_call 35; refine (H1.out _ HB0.out).mono ?_; rintro e w1 ⟨rfl, hb1⟩; have HB1 := Lib.hid (HB0.out.trans (hb1.mono (by simp))); clear hb1) | fail)
  go_ret
  exact ⟨rfl, HB1.out⟩

set_option maxHeartbeats 4000000 in
theorem oper4 (op n m imm at' : Int) (w : World) (l1 : List UInt8)
    (H1 : Hid (Says w 36 #[.agg #[.int .i64 op, .int .i64 n, .int .i64 m, .int .i64 imm], .int .i64 at'] l1)) :
    Calls Tryd.prog 25 #[.agg #[.int .i64 op, .int .i64 n, .int .i64 m, .int .i64 imm], .int .i64 4, .int .i64 at'] w fun e w' => e = .returned (.string ⟨(l1).toArray⟩) ∧ Below w.heap.size w w' := by
  have HB0 := Lib.hid (oalloc w (.cells #[.int .i64 op, .int .i64 n, .int .i64 m, .int .i64 imm] 24))
  go_enter Tryd.func25, Tryd.ntmps25
  go_wp2_with (first | (go_at_call 36; refine (H1.out _ HB0.out).mono ?_; rintro e w1 ⟨rfl, hb1⟩; have HB1 := Lib.hid (HB0.out.trans (hb1.mono (by simp))); clear hb1) | fail)
  go_ret
  exact ⟨rfl, HB1.out⟩

set_option maxHeartbeats 4000000 in
theorem oper5 (op n m imm at' : Int) (w : World) (l1 : List UInt8)
    (H1 : Hid (Says w 36 #[.agg #[.int .i64 op, .int .i64 n, .int .i64 m, .int .i64 imm], .int .i64 at'] l1)) :
    Calls Tryd.prog 25 #[.agg #[.int .i64 op, .int .i64 n, .int .i64 m, .int .i64 imm], .int .i64 5, .int .i64 at'] w fun e w' => e = .returned (.string ⟨(l1).toArray⟩) ∧ Below w.heap.size w w' := by
  have HB0 := Lib.hid (oalloc w (.cells #[.int .i64 op, .int .i64 n, .int .i64 m, .int .i64 imm] 24))
  go_enter Tryd.func25, Tryd.ntmps25
  go_wp2_with (first | (go_at_call 36; refine (H1.out _ HB0.out).mono ?_; rintro e w1 ⟨rfl, hb1⟩; have HB1 := Lib.hid (HB0.out.trans (hb1.mono (by simp))); clear hb1) | fail)
  go_ret
  exact ⟨rfl, HB1.out⟩

set_option maxHeartbeats 4000000 in
theorem oper6 (op n m imm at' : Int) (w : World) (l1 : List UInt8) (h1 : l1.length ≤ 100)
    (H1 : Hid (Says w 35 #[.int .i64 n] l1)) :
    Calls Tryd.prog 25 #[.agg #[.int .i64 op, .int .i64 n, .int .i64 m, .int .i64 imm], .int .i64 6, .int .i64 at'] w fun e w' => e = .returned (.string ⟨([64] ++ l1).toArray⟩) ∧ Below w.heap.size w w' := by
  obtain ⟨l0, hl0⟩ : ∃ x, x = [64] ++ l1 := ⟨_, rfl⟩
  have hc0 : (⟨#[64]⟩ : ByteArray) ++ ⟨l1.toArray⟩ = ⟨l0.toArray⟩ := by rw [hl0]; exact bcat [64] l1
  have hs0 := few_1cat (a := l1) (by omega)
  rw [← hl0]
  clear hl0
  have HB0 := Lib.hid (oalloc w (.cells #[.int .i64 op, .int .i64 n, .int .i64 m, .int .i64 imm] 24))
  go_enter Tryd.func25, Tryd.ntmps25
  go_wp2_with (first | (go_at_call 35; refine (H1.out _ HB0.out).mono ?_; rintro e w1 ⟨rfl, hb1⟩; have HB1 := Lib.hid (HB0.out.trans (hb1.mono (by simp))); clear hb1) | fail)
  go_ret
  exact ⟨rfl, HB1.out⟩

set_option maxHeartbeats 4000000 in
theorem oper11 (op n m imm at' : Int) (w : World) (l1 : List UInt8)
    (H1 : Hid (Says w 34 #[.int .i64 imm] l1)) :
    Calls Tryd.prog 25 #[.agg #[.int .i64 op, .int .i64 n, .int .i64 m, .int .i64 imm], .int .i64 11, .int .i64 at'] w fun e w' => e = .returned (.string ⟨(l1).toArray⟩) ∧ Below w.heap.size w w' := by
  have HB0 := Lib.hid (oalloc w (.cells #[.int .i64 op, .int .i64 n, .int .i64 m, .int .i64 imm] 24))
  go_enter Tryd.func25, Tryd.ntmps25
  go_wp2_with (first | (go_at_call 34; refine (H1.out _ HB0.out).mono ?_; rintro e w1 ⟨rfl, hb1⟩; have HB1 := Lib.hid (HB0.out.trans (hb1.mono (by simp))); clear hb1) | fail)
  go_ret
  exact ⟨rfl, HB1.out⟩

end Go.Proofs.YtgadpimknobljaaDoor
