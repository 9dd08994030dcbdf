/- The walk of pllaw8.DisTells. -/
import Derived.Test.YtgadpimknobljaaDoorDsH
import Derived.Test.YtgadpimknobljaaDoorDrC
import Derived.Test.YtgadpimknobljaaDoorIsaRefX
namespace Go.Proofs.YtgadpimknobljaaDoor
open Go.RowKit Isa

set_option maxHeartbeats 8000000 in
set_option maxRecDepth 100000 in
theorem disTells_any {w : World} {ad : Option Addr} {len cap : Nat} {bs : Nat → Int} (op n m imm at' : Int) (hD : DL w) (hR : BR w ad len bs) :
    Calls Tryd.prog 3 #[.slice ad len cap, .agg #[.int .i64 op, .int .i64 n, .int .i64 m, .int .i64 imm], .int .i64 at'] w fun e w' => e = .returned (.bool true) ∧ Below w.heap.size w w' := by
  obtain ⟨V, hV⟩ : ∃ V, V = w.alloc (.cells #[.int .i64 op, .int .i64 n, .int .i64 m, .int .i64 imm] 24) := ⟨_, rfl⟩
  have HV := Lib.hid hV
  have HI0 : Hid (insBox w (.int .i64 op) (.int .i64 n) (.int .i64 m) (.int .i64 imm) V) := by
    rw [hV]
    refine ⟨?_, ?_, ?_, ?_, ?_, oalloc _ _⟩ <;> simp
  have HKP : Hid (∀ W W', insBox w (.int .i64 op) (.int .i64 n) (.int .i64 m) (.int .i64 imm) W → Below W.heap.size W W' → insBox w (.int .i64 op) (.int .i64 n) (.int .i64 m) (.int .i64 imm) W') := fun W W' h hb => keep4 hb h.1 h
  have HT1 : Hid (∀ W, Below w.heap.size w W → Calls Tryd.prog 4 #[.slice ad len cap] W fun e w' => e = .returned (.string ⟨(textTo bs len ((len + 1) / 2)).toArray⟩) ∧ Below W.heap.size W w') := fun W hb => text_any (hD.next hb) (hR.next hb)
  have HT2 : Hid (∀ W, Below w.heap.size w W → Calls Tryd.prog 5 #[.slice ad len cap] W fun e w' => e = .returned (.string ⟨(textTo bs len ((len + 1) / 2)).toArray⟩) ∧ Below W.heap.size W w') := fun W hb => rtext_any (hD.next hb) (hR.next hb)
  have HWR : Hid (∀ W, Calls Tryd.prog 6 #[.agg #[.int .i64 op, .int .i64 n, .int .i64 m, .int .i64 imm]] W fun e w' => e = .returned (.int .i64 (wrongI op n m imm)) ∧ Below W.heap.size W w') := fun W => rWrong_any op n m imm W
  have HDL : Hid (∀ W, Below w.heap.size w W → DL W) := fun W hb => hD.next hb
  have HBD : Hid (wrongI op n m imm = 0 → 0 ≤ n ∧ n ≤ 15 ∧ 0 ≤ m ∧ m ≤ 15 ∧ -10000 ≤ imm ∧ imm ≤ 10000) := fun h => right_bd h
  clear hV hD hR
  generalize textTo bs len ((len + 1) / 2) = tx at *
  generalize wrongI op n m imm = wi at *
  go_enter Tryd.func3, Tryd.ntmps3
  go_wp2_with fail
  rw [← HV.out]
  refine (HT1.out _ HI0.out.2.2.2.2.2).mono ?_
  rintro e W1 ⟨rfl, hb1⟩
  have HI1 := Lib.hid (HKP.out _ _ HI0.out hb1)
  clear hb1
  go_wp2_with (first | (go_at_call 5; refine (HT2.out _ HI1.out.2.2.2.2.2).mono ?_; rintro e W2 ⟨rfl, hb2⟩; have HI2 := Lib.hid (HKP.out _ _ HI1.out hb2); obtain ⟨_, x0, x1, x2, x3, _⟩ := HI2.out; clear hb2) | fail)
  by_cases hw : wi = 0
  · by_cases ha : at' < 0
    · subst hw
      refine (HWR.out _).mono ?_
      rintro e W3 ⟨rfl, hb3⟩
      have HI3 := Lib.hid (HKP.out _ _ HI2.out hb3)
      clear hb3
      go_wp2
      go_ret
      exact ⟨rfl, HI3.out.2.2.2.2.2⟩
    · by_cases ha2 : 1000000 < at'
      · subst hw
        refine (HWR.out _).mono ?_
        rintro e W3 ⟨rfl, hb3⟩
        have HI3 := Lib.hid (HKP.out _ _ HI2.out hb3)
        clear hb3
        go_wp2
        go_ret
        exact ⟨rfl, HI3.out.2.2.2.2.2⟩
      · obtain ⟨n0, n1, m0, m1, i0, i1⟩ := HBD.out hw
        have HTO : Hid (∀ W, Below w.heap.size w W → Calls Tryd.prog 7 #[.agg #[.int .i64 op, .int .i64 n, .int .i64 m, .int .i64 imm], .int .i64 at'] W fun e w' => e = .returned (.tuple #[.int .i64 (toI op imm at'), .bool (toB op)]) ∧ Below W.heap.size W w') := fun W hb => to_any op n m imm at' W (HDL.out W hb).laid (by omega) (by omega) i0 i1
        have HRO : Hid (∀ W, Calls Tryd.prog 8 #[.agg #[.int .i64 op, .int .i64 n, .int .i64 m, .int .i64 imm], .int .i64 at'] W fun e w' => e = .returned (.tuple #[.int .i64 (toI op imm at'), .bool (toB op)]) ∧ Below W.heap.size W w') := fun W => rto_any op n m imm at' W (by omega) (by omega) i0 i1
        have HLI : Hid (∀ W, Below w.heap.size w W → Calls Tryd.prog 9 #[.agg #[.int .i64 op, .int .i64 n, .int .i64 m, .int .i64 imm], .int .i64 at'] W fun e w' => e = .returned (.string ⟨(lineL op n m imm at').toArray⟩) ∧ Below W.heap.size W w') := fun W hb => line_any op n m imm at' W (HDL.out W hb) (by omega) (by omega) n0 n1 m0 m1 i0 i1
        have HRL : Hid (∀ W, Below w.heap.size w W → Calls Tryd.prog 10 #[.agg #[.int .i64 op, .int .i64 n, .int .i64 m, .int .i64 imm], .int .i64 at'] W fun e w' => e = .returned (.string ⟨(lineL op n m imm at').toArray⟩) ∧ Below W.heap.size W w') := fun W hb => rline_any op n m imm at' W (HDL.out W hb) (by omega) (by omega) n0 n1 m0 m1 i0 i1
        subst hw
        clear HBD HDL n0 n1 m0 m1 i0 i1
        generalize toI op imm at' = ti at *
        generalize toB op = tb at *
        generalize lineL op n m imm at' = ll at *
        refine (HWR.out _).mono ?_
        rintro e W3 ⟨rfl, hb3⟩
        have HI3 := Lib.hid (HKP.out _ _ HI2.out hb3)
        clear hb3 x0 x1 x2 x3
        obtain ⟨_, x0, x1, x2, x3, _⟩ := HI3.out
        go_wp2_with fail
        refine (HTO.out _ HI3.out.2.2.2.2.2).mono ?_
        rintro e W4 ⟨rfl, hb4⟩
        have HI4 := Lib.hid (HKP.out _ _ HI3.out hb4)
        clear hb4 x0 x1 x2 x3
        obtain ⟨_, x0, x1, x2, x3, _⟩ := HI4.out
        go_wp2_with fail
        refine (HRO.out _).mono ?_
        rintro e W5 ⟨rfl, hb5⟩
        have HI5 := Lib.hid (HKP.out _ _ HI4.out hb5)
        clear hb5 x0 x1 x2 x3
        go_wp2_with fail
        have hI5 := HI5.out
        go_region_held3 (fun w' => w.heap.size < w'.heap.size ∧ w'.cell? ⟨w.heap.size, 0, none⟩ = some (.int .i64 op) ∧ w'.cell? ⟨w.heap.size, 1, none⟩ = some (.int .i64 n) ∧ w'.cell? ⟨w.heap.size, 2, none⟩ = some (.int .i64 m) ∧ w'.cell? ⟨w.heap.size, 3, none⟩ = some (.int .i64 imm) ∧ Below w.heap.size w w')
          (first | exact keep4 hb7 (show insBox w _ _ _ _ _ from (by assumption)).1 (by assumption) | exact keep4 hb6 (show insBox w _ _ _ _ _ from (by assumption)).1 (by assumption) | exact ⟨hI5.1, hI5.2.1, hI5.2.2.1, hI5.2.2.2.1, hI5.2.2.2.2.1, hI5.2.2.2.2.2.drew⟩)
          ((first | (go_at_call 9; refine (HLI.out _ (show insBox w _ _ _ _ _ from (by assumption)).2.2.2.2.2).mono ?_; rintro e w6 ⟨rfl, hb6⟩) | (go_at_call 10; refine (HRL.out _ (show insBox w _ _ _ _ _ from (by assumption)).2.2.2.2.2).mono ?_; rintro e w7 ⟨rfl, hb7⟩)))
        rename_i hH
        have HB := Lib.hid hH.2.2.2.2.2
        clear hH
        go_wp2
        go_ret
        exact ⟨rfl, HB.out⟩
  · have hwb : (wi == 0) = false := by simp [hw]
    have hwn : (wi != 0) = true := by simp [hw]
    refine (HWR.out _).mono ?_
    rintro e W3 ⟨rfl, hb3⟩
    have HI3 := Lib.hid (HKP.out _ _ HI2.out hb3)
    clear hb3
    go_wp2
    go_ret
    exact ⟨rfl, HI3.out.2.2.2.2.2⟩

end Go.Proofs.YtgadpimknobljaaDoor
