/- The walk of pllaw1.IsaTurns. -/
import Derived.Test.YtnloooiimpdabaaDoorTurn
import Derived.Test.YtnloooiimpdabaaDoorAlive
namespace Go.Proofs.YtnloooiimpdabaaDoor
open Go.RowKit

/-- What stays on the law's road: the tables, old memory, and the instruction's box g. -/
structure BoxAt (w : World) (g : Nat) (a b c d : Int) (x : World) : Prop where
  laid : Laid x
  bel : Below w.heap.size w x
  lt : g < x.heap.size
  c0 : x.cell? ⟨g, 0, none⟩ = some (.int .i64 a)
  c1 : x.cell? ⟨g, 1, none⟩ = some (.int .i64 b)
  c2 : x.cell? ⟨g, 2, none⟩ = some (.int .i64 c)
  c3 : x.cell? ⟨g, 3, none⟩ = some (.int .i64 d)

theorem BoxAt.next {w x y : World} {g : Nat} {a b c d : Int} (h : BoxAt w g a b c d x) (hb : Below x.heap.size x y) : BoxAt w g a b c d y where
  laid := h.laid.below hb h.laid.sz
  bel := h.bel.trans (hb.mono h.bel.size)
  lt := Nat.lt_of_lt_of_le h.lt hb.size
  c0 := by rw [hb.cell h.lt]; exact h.c0
  c1 := by rw [hb.cell h.lt]; exact h.c1
  c2 := by rw [hb.cell h.lt]; exact h.c2
  c3 := by rw [hb.cell h.lt]; exact h.c3

theorem BoxAt.start {w x : World} (a b c d : Int) (hL : Laid x) (hB : Below w.heap.size w x) : BoxAt w x.heap.size a b c d (x.alloc (.cells #[.int .i64 a, .int .i64 b, .int .i64 c, .int .i64 d] 23)) where
  laid := hL.below ((Below.refl x.heap.size x).alloc (Nat.le_refl _) _) hL.sz
  bel := hB.alloc hB.size _
  lt := by simp
  c0 := by simp
  c1 := by simp
  c2 := by simp
  c3 := by simp

set_option maxHeartbeats 1000000 in
theorem turns_any (op n m imm x : Int) (w : World) (hL : Laid w) :
    Calls Tryd.prog 4 #[.agg #[.int .i64 op, .int .i64 n, .int .i64 m, .int .i64 imm], .int .i64 x] w fun e w' => e = .returned (.bool true) ∧ Below w.heap.size w w' := by
  have hs := hL.sz
  have A0 := BoxAt.start op n m imm hL (Below.refl w.heap.size w)
  clear hL
  by_cases h1 : wrongI op n m imm = 0
  · have HW : Hid (wrongI op n m imm = 0) := h1
    obtain ⟨t1, t2⟩ := turn1 h1
    have e1 : encW op n m imm = encI op n m imm := by simp [encW, h1]
    have HV : Hid (decV (encI op n m imm) = .agg #[.int .i64 op, .int .i64 n, .int .i64 m, .int .i64 imm]) := t1
    have HE : Hid (decE (encI op n m imm) = 0) := t2
    have HN : Hid (encW op n m imm = encI op n m imm) := e1
    clear h1 t1 t2 e1
    go_enter Tryd.func4, Tryd.ntmps4
    go_wp2_with fail
    refine (alive_any _ A0.laid).mono ?_
    rintro e w1 ⟨rfl, hb1⟩
    have A1 := A0.next hb1
    clear A0 hb1
    have c0 := A1.c0
    have c1 := A1.c1
    have c2 := A1.c2
    have c3 := A1.c3
    go_wp2_with fail
    refine (wrong_any op n m imm _ A1.laid).mono ?_
    rintro e w2 ⟨rfl, hb2⟩
    rw [HW.out]
    have A2 := A1.next hb2
    clear A1 hb2 c0 c1 c2 c3
    have c0 := A2.c0
    have c1 := A2.c1
    have c2 := A2.c2
    have c3 := A2.c3
    go_wp2_with fail
    refine (encode_any op n m imm _ A2.laid).mono ?_
    rintro e w3 ⟨rfl, hb3⟩
    rw [HN.out, HW.out]
    have A3 := A2.next hb3
    clear A2 hb3 c0 c1 c2 c3
    go_wp2_with fail
    refine (decode_any (encI op n m imm) _ A3.laid).mono ?_
    rintro e w4 ⟨rfl, hb4⟩
    rw [HV.out, HE.out]
    have A4 := A3.next hb4
    clear A3 hb4
    have c0 := A4.c0
    have c1 := A4.c1
    have c2 := A4.c2
    have c3 := A4.c3
    have hlt := A4.lt
    have A5 := A4.next ((Below.refl w4.heap.size w4).alloc (Nat.le_refl _) (.cells #[.int .i64 op, .int .i64 n, .int .i64 m, .int .i64 imm] 23))
    go_wp2_with fail
    clear A4 c0 c1 c2 c3 hlt HW HV HE HN
    refine (decode_any x _ A5.laid).mono ?_
    rintro e w6 ⟨rfl, hb6⟩
    have A6 := A5.next hb6
    clear A5 hb6
    by_cases hE : decE x = 0
    · obtain ⟨op2, n2, m2, imm2, hv, hw2, he2⟩ := turn2 hE
      rw [hv, hE]
      have HW2 : Hid (wrongI op2 n2 m2 imm2 = 0) := hw2
      have HN2 : Hid (encW op2 n2 m2 imm2 = x) := by simp [Hid, encW, hw2, he2]
      have A7 := BoxAt.start op2 n2 m2 imm2 A6.laid A6.bel
      clear hv hw2 he2 A6 hE
      go_wp2_with fail
      refine (encode_any op2 n2 m2 imm2 _ A7.laid).mono ?_
      rintro e w8 ⟨rfl, hb8⟩
      rw [HN2.out, HW2.out]
      have A8 := A7.next hb8
      clear A7 hb8
      have d0 := A8.c0
      have d1 := A8.c1
      have d2 := A8.c2
      have d3 := A8.c3
      go_wp2_with fail
      refine (wrong_any op2 n2 m2 imm2 _ A8.laid).mono ?_
      rintro e w9 ⟨rfl, hb9⟩
      rw [HW2.out]
      have HB : Hid (Below w.heap.size w w9) := (A8.next hb9).bel
      clear A8 hb9 d0 d1 d2 d3
      go_wp2
      go_ret
      exact ⟨rfl, HB.out⟩
    · have hv := turn3 hE
      have hE' : (decE x != 0) = true := by simpa using hE
      rw [hv]
      have HB : Hid (Below w.heap.size w w6) := A6.bel
      clear A6 hv hE
      go_wp2
      go_ret
      exact ⟨rfl, HB.out.alloc HB.out.size _⟩
  · have hne : (wrongI op n m imm == 0) = false := by simpa using h1
    clear h1
    go_enter Tryd.func4, Tryd.ntmps4
    go_wp2_with fail
    refine (alive_any _ A0.laid).mono ?_
    rintro e w1 ⟨rfl, hb1⟩
    have A1 := A0.next hb1
    clear A0 hb1
    have c0 := A1.c0
    have c1 := A1.c1
    have c2 := A1.c2
    have c3 := A1.c3
    go_wp2_with fail
    refine (wrong_any op n m imm _ A1.laid).mono ?_
    rintro e w2 ⟨rfl, hb2⟩
    have A5 := A1.next hb2
    clear A1 hb2 c0 c1 c2 c3
    go_wp2_with fail
    clear hne
    refine (decode_any x _ A5.laid).mono ?_
    rintro e w6 ⟨rfl, hb6⟩
    have A6 := A5.next hb6
    clear A5 hb6
    by_cases hE : decE x = 0
    · obtain ⟨op2, n2, m2, imm2, hv, hw2, he2⟩ := turn2 hE
      rw [hv, hE]
      have HW2 : Hid (wrongI op2 n2 m2 imm2 = 0) := hw2
      have HN2 : Hid (encW op2 n2 m2 imm2 = x) := by simp [Hid, encW, hw2, he2]
      have A7 := BoxAt.start op2 n2 m2 imm2 A6.laid A6.bel
      clear hv hw2 he2 A6 hE
      go_wp2_with fail
      refine (encode_any op2 n2 m2 imm2 _ A7.laid).mono ?_
      rintro e w8 ⟨rfl, hb8⟩
      rw [HN2.out, HW2.out]
      have A8 := A7.next hb8
      clear A7 hb8
      have d0 := A8.c0
      have d1 := A8.c1
      have d2 := A8.c2
      have d3 := A8.c3
      go_wp2_with fail
      refine (wrong_any op2 n2 m2 imm2 _ A8.laid).mono ?_
      rintro e w9 ⟨rfl, hb9⟩
      rw [HW2.out]
      have HB : Hid (Below w.heap.size w w9) := (A8.next hb9).bel
      clear A8 hb9 d0 d1 d2 d3
      go_wp2
      go_ret
      exact ⟨rfl, HB.out⟩
    · have hv := turn3 hE
      have hE' : (decE x != 0) = true := by simpa using hE
      rw [hv]
      have HB : Hid (Below w.heap.size w w6) := A6.bel
      clear A6 hv hE
      go_wp2
      go_ret
      exact ⟨rfl, HB.out.alloc HB.out.size _⟩

end Go.Proofs.YtnloooiimpdabaaDoor
