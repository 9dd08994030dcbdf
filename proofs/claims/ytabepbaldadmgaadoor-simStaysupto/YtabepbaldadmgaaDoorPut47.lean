/- The contract of the document's own Signed. The statements' own right. -/
import Derived.Test.YtabepbaldadmgaaDoorIsaRefA
import Derived.Test.YtabepbaldadmgaaDoorSnV
namespace Go.Proofs.YtabepbaldadmgaaDoor.Isa
open Go.RowKit

theorem rSigned_any (n : Int) (w : World) :
    Calls Tryd.prog 20 #[.int .i64 n] w fun e w' => e = .returned (.int .i64 (wrap64 (wrap32 n))) ∧ w' = w := by
  go_enter Tryd.func20, Tryd.ntmps20
  go_wp2
  go_ret
  exact ⟨ret_int (by rw [show wrap32 (n % 4294967296) = wrap32 n by unfold wrap32; omega]), rfl⟩

end Go.Proofs.YtabepbaldadmgaaDoor.Isa

namespace Go.Proofs.YtabepbaldadmgaaDoor
open Go.RowKit Isa

theorem regIndexAll (r : Nat → Int) (w : World) : ((List.range 16).map fun k : Nat => (Instr.index 22 (.agg #[.int .i64 (r 0), .int .i64 (r 1), .int .i64 (r 2), .int .i64 (r 3), .int .i64 (r 4), .int .i64 (r 5), .int .i64 (r 6), .int .i64 (r 7), .int .i64 (r 8), .int .i64 (r 9), .int .i64 (r 10), .int .i64 (r 11), .int .i64 (r 12), .int .i64 (r 13), .int .i64 (r 14), .int .i64 (r 15)]) (.int .i64 (k : Int))).run Tryd.prog w) = (List.range 16).map fun k : Nat => .ok (.int .i64 (r k)) w := by kernel_rfl
theorem regIndex (r : Nat → Int) (k : Nat) (hk : k < 16) (w : World) : (Instr.index 22 (.agg #[.int .i64 (r 0), .int .i64 (r 1), .int .i64 (r 2), .int .i64 (r 3), .int .i64 (r 4), .int .i64 (r 5), .int .i64 (r 6), .int .i64 (r 7), .int .i64 (r 8), .int .i64 (r 9), .int .i64 (r 10), .int .i64 (r 11), .int .i64 (r 12), .int .i64 (r 13), .int .i64 (r 14), .int .i64 (r 15)]) (.int .i64 (k : Int))).run Tryd.prog w = .ok (.int .i64 (r k)) w := by
  have h := congrArg (fun l => l[k]?) (regIndexAll r w)
  simpa [List.getElem?_map, List.getElem?_range hk] using h

set_option maxHeartbeats 8000000 in
set_option maxRecDepth 100000 in
theorem right_any (m : Ma) (ba : Option Addr) (bc : Nat) (s0 : Option Addr) (s1 s2 : Nat) (ta : Option Addr) (tc : Nat) (w : World) :
    Calls Tryd.prog 6 #[.agg (mC m ba bc (.slice s0 s1 s2) ta tc)] w fun e w' => ∃ b, e = .returned (.bool b) ∧ Below w.heap.size w w' ∧ (b = true → (∀ k, k < 16 → in32 (m.r k)) ∧ 0 ≤ m.base ∧ m.base ≤ 1048576 ∧ 0 ≤ m.st ∧ m.st ≤ 1000000 ∧ in32 m.pc ∧ in32 m.pr) := by
  obtain ⟨V, hV⟩ : ∃ V, V = w.alloc (.cells (mC m ba bc (.slice s0 s1 s2) ta tc) 29) := ⟨_, rfl⟩
  have hV0 : Below w.heap.size w V := by rw [hV]; exact oalloc _ _
  have hV1 : V.heap[w.heap.size]? = some (.cells (mC m ba bc (.slice s0 s1 s2) ta tc) 29 (0, 0)) := by rw [hV]; exact blk_new _ _ _
  have a0 := fun k (hk : k < 16) => cell_of_block (i := k) hV1 (mC_reg m ba bc _ ta tc k hk)
  have a0' := a0 0 (by decide)
  have a1' := a0 1 (by decide)
  have a2' := a0 2 (by decide)
  have a3' := a0 3 (by decide)
  have a4' := a0 4 (by decide)
  have a5' := a0 5 (by decide)
  have a6' := a0 6 (by decide)
  have a7' := a0 7 (by decide)
  have a8' := a0 8 (by decide)
  have a9' := a0 9 (by decide)
  have a10' := a0 10 (by decide)
  have a11' := a0 11 (by decide)
  have a12' := a0 12 (by decide)
  have a13' := a0 13 (by decide)
  have a14' := a0 14 (by decide)
  have a15' := a0 15 (by decide)
  have HV := Lib.hid hV.symm
  have HV0 := Lib.hid hV0
  have HV1 := Lib.hid hV1
  clear hV hV0 hV1 a0
  go_enter Tryd.func6, Tryd.ntmps6
  go_upto_region 1 with fail
  rw [HV.out]
  clear HV
  go_wp2
  clear a0' a1' a2' a3' a4' a5' a6' a7' a8' a9' a10' a11' a12' a13' a14' a15'
  have HS : Hid (∀ (n : Int) (X : World), Calls Tryd.prog 20 #[.int .i64 n] X fun e w' => e = .returned (.int .i64 (wrap32 n)) ∧ X = w') := fun n X => by
    have := rSigned_any n X
    rw [w6432] at this
    exact this.mono fun _ _ ⟨h1, h2⟩ => ⟨h1, h2.symm⟩
  go_loop [7] (fun i => ∃ k : Nat, k ≤ 16 ∧ i = .int .i64 k ∧ Hid (∀ j, j < k → in32 (m.r j))) (fun i => 16 - (intOf i).toNat)
  case atStart => exact ⟨0, Nat.zero_le _, rfl, fun j hj => absurd hj (by omega)⟩
  case round =>
    obtain ⟨k, hk, rfl, HA⟩ := hrel
    by_cases hlt : k < 16
    · have hstep : ∀ q, q = m.r k → in32 q → ∀ j, j < k + 1 → in32 (m.r j) := fun q hq hin j hj => by
        by_cases e : j = k
        · rw [e, ← hq]; exact hin
        · exact HA.out j (by omega)
      have HSTEP := Lib.hid hstep
      clear hstep HA
      have hix := regIndex m.r k hlt
      have hk1 : (k : Int) < 16 := by omega
      by_cases hq : wrap32 (m.r k) = m.r k
      · have hq2 : (m.r k != wrap32 (m.r k)) = false := by simp [hq]
        have HN := Lib.hid (HSTEP.out (m.r k) rfl (by rw [← hq]; exact w32_bd _))
        clear HSTEP hq
        go_wp2_with (first | (go_at_call 20; refine (HS.out _ _).mono ?_; rintro e w' ⟨rfl, rfl⟩) | fail)
        exact ⟨⟨k + 1, by omega, by go_num, HN⟩, by simp [intOf]; omega⟩
      · have hq2 : (m.r k != wrap32 (m.r k)) = true := by simp; exact fun e => hq e.symm
        clear HSTEP hq
        go_wp2_with (first | (go_at_call 20; refine (HS.out _ _).mono ?_; rintro e w' ⟨rfl, rfl⟩) | fail)
        go_ret
        exact ⟨false, rfl, HV0.out, fun h => absurd h (by decide)⟩
    · have hk1 : ¬ (k : Int) < 16 := by omega
      obtain rfl : k = 16 := by omega
      have HAll : Hid (∀ k, k < 16 → in32 (m.r k)) := HA
      have HBQ : Hid (∀ nq, Below w.heap.size w (V.drewN nq)) := fun nq => HV0.out.trans (Go.Joins.below_draws _ V nq)
      have HSQ : Hid (∀ (n : Int) (X : World), Calls Tryd.prog 20 #[.int .i64 n] X fun e w' => e = .returned (.int .i64 (wrap32 n)) ∧ w' = X) := fun n X => by
        have := rSigned_any n X
        rw [w6432] at this
        exact this
      obtain ⟨_, x17, x18, x19, _, _, _, x23⟩ := mcs HV1.out
      clear HV1 HA
      by_cases g0 : 0 ≤ m.base
      · have q0 : decide (0 ≤ m.base) = true := decide_eq_true g0
        by_cases g1 : m.base ≤ 1048576
        · have q1 : decide (m.base ≤ 1048576) = true := decide_eq_true g1
          by_cases g2 : 0 ≤ m.st
          · have q2 : decide (0 ≤ m.st) = true := decide_eq_true g2
            by_cases g3 : m.st ≤ 1000000
            · have q3 : decide (m.st ≤ 1000000) = true := decide_eq_true g3
              by_cases g4 : m.pc = wrap32 m.pc
              · have q4 : (m.pc == wrap32 m.pc) = true := beq_iff_eq.2 g4
                by_cases g5 : m.pr = wrap32 m.pr
                · have q5 : (m.pr == wrap32 m.pr) = true := beq_iff_eq.2 g5
                  have HG := Lib.hid (And.intro HAll.out (And.intro g0 (And.intro g1 (And.intro g2 (And.intro g3 (And.intro (show in32 m.pc by rw [g4]; exact w32_bd _) (show in32 m.pr by rw [g5]; exact w32_bd _)))))))
                  clear g0 g1 g2 g3 g4 g5
                  go_wp2
                  go_quiet (first | (go_at_call 20; refine Calls.quiet_of_same (HSQ.out _ _)))
                  go_wp2
                  go_ret
                  exact ⟨true, rfl, HBQ.out _, fun _ => HG.out⟩
                · have q5 : (m.pr == wrap32 m.pr) = false := beq_eq_false_iff_ne.2 g5
                  clear g5 g4
                  go_wp2
                  go_quiet (first | (go_at_call 20; refine Calls.quiet_of_same (HSQ.out _ _)))
                  go_wp2
                  go_ret
                  exact ⟨false, rfl, HBQ.out _, fun h => absurd h (by decide)⟩
              · have q4 : (m.pc == wrap32 m.pc) = false := beq_eq_false_iff_ne.2 g4
                clear g4
                go_wp2
                go_quiet (first | (go_at_call 20; refine Calls.quiet_of_same (HSQ.out _ _)))
                go_wp2
                go_ret
                exact ⟨false, rfl, HBQ.out _, fun h => absurd h (by decide)⟩
            · have q3 : decide (m.st ≤ 1000000) = false := decide_eq_false g3
              clear g3
              go_wp2
              go_quiet (first | (go_at_call 20; refine Calls.quiet_of_same (HSQ.out _ _)))
              go_wp2
              go_ret
              exact ⟨false, rfl, HBQ.out _, fun h => absurd h (by decide)⟩
          · have q2 : decide (0 ≤ m.st) = false := decide_eq_false g2
            clear g2
            go_wp2
            go_quiet (first | (go_at_call 20; refine Calls.quiet_of_same (HSQ.out _ _)))
            go_wp2
            go_ret
            exact ⟨false, rfl, HBQ.out _, fun h => absurd h (by decide)⟩
        · have q1 : decide (m.base ≤ 1048576) = false := decide_eq_false g1
          clear g1
          go_wp2
          go_quiet (first | (go_at_call 20; refine Calls.quiet_of_same (HSQ.out _ _)))
          go_wp2
          go_ret
          exact ⟨false, rfl, HBQ.out _, fun h => absurd h (by decide)⟩
      · have q0 : decide (0 ≤ m.base) = false := decide_eq_false g0
        clear g0
        go_wp2
        go_quiet (first | (go_at_call 20; refine Calls.quiet_of_same (HSQ.out _ _)))
        go_wp2
        go_ret
        exact ⟨false, rfl, HBQ.out _, fun h => absurd h (by decide)⟩

end Go.Proofs.YtabepbaldadmgaaDoor
