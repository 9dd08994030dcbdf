/- The contract of the document's own Signed. The statements' own right. SimParts: the mathematics; machines that avoid a block. -/
import Derived.Test.YtabepbaldadmgaaDoorPut2
import Derived.Test.YtabepbaldadmgaaDoorSnV
import Derived.Test.YtabepbaldadmgaaDoorPut33
namespace Go.Proofs.YtabepbaldadmgaaDoor.Isa
open Go.RowKit

theorem rSigned_any (n : Int) (w : World) :
    Calls Tryd.prog 20 #[.int .i64 n] w fun e w' => e = .returned (.int .i64 (wrap64 (wrap32 n))) ∧ w' = w := by
  go_enter Tryd.func20, Tryd.ntmps20
  go_wp2
  go_ret
  exact ⟨ret_int (by rw [show wrap32 (n % 4294967296) = wrap32 n by unfold wrap32; omega]), rfl⟩

end Go.Proofs.YtabepbaldadmgaaDoor.Isa

namespace Go.Proofs.YtabepbaldadmgaaDoor
open Go.RowKit Isa

theorem regIndexAll (r : Nat → Int) (w : World) : ((List.range 16).map fun k : Nat => (Instr.index 22 (.agg #[.int .i64 (r 0), .int .i64 (r 1), .int .i64 (r 2), .int .i64 (r 3), .int .i64 (r 4), .int .i64 (r 5), .int .i64 (r 6), .int .i64 (r 7), .int .i64 (r 8), .int .i64 (r 9), .int .i64 (r 10), .int .i64 (r 11), .int .i64 (r 12), .int .i64 (r 13), .int .i64 (r 14), .int .i64 (r 15)]) (.int .i64 (k : Int))).run Tryd.prog w) = (List.range 16).map fun k : Nat => .ok (.int .i64 (r k)) w := by kernel_rfl
theorem regIndex (r : Nat → Int) (k : Nat) (hk : k < 16) (w : World) : (Instr.index 22 (.agg #[.int .i64 (r 0), .int .i64 (r 1), .int .i64 (r 2), .int .i64 (r 3), .int .i64 (r 4), .int .i64 (r 5), .int .i64 (r 6), .int .i64 (r 7), .int .i64 (r 8), .int .i64 (r 9), .int .i64 (r 10), .int .i64 (r 11), .int .i64 (r 12), .int .i64 (r 13), .int .i64 (r 14), .int .i64 (r 15)]) (.int .i64 (k : Int))).run Tryd.prog w = .ok (.int .i64 (r k)) w := by
  have h := congrArg (fun l => l[k]?) (regIndexAll r w)
  simpa [List.getElem?_map, List.getElem?_range hk] using h

set_option maxHeartbeats 8000000 in
set_option maxRecDepth 100000 in
theorem right_any (m : Ma) (ba : Option Addr) (bc : Nat) (s0 : Option Addr) (s1 s2 : Nat) (ta : Option Addr) (tc : Nat) (w : World) :
    Calls Tryd.prog 6 #[.agg (mC m ba bc (.slice s0 s1 s2) ta tc)] w fun e w' => ∃ b, e = .returned (.bool b) ∧ Below w.heap.size w w' ∧ (b = true → (∀ k, k < 16 → in32 (m.r k)) ∧ 0 ≤ m.base ∧ m.base ≤ 1048576 ∧ 0 ≤ m.st ∧ m.st ≤ 1000000 ∧ in32 m.pc ∧ in32 m.pr) := by
  obtain ⟨V, hV⟩ : ∃ V, V = w.alloc (.cells (mC m ba bc (.slice s0 s1 s2) ta tc) 29) := ⟨_, rfl⟩
  have hV0 : Below w.heap.size w V := by rw [hV]; exact oalloc _ _
  have hV1 : V.heap[w.heap.size]? = some (.cells (mC m ba bc (.slice s0 s1 s2) ta tc) 29 (0, 0)) := by rw [hV]; exact blk_new _ _ _
  have a0 := fun k (hk : k < 16) => cell_of_block (i := k) hV1 (mC_reg m ba bc _ ta tc k hk)
  have a0' := a0 0 (by decide)
  have a1' := a0 1 (by decide)
  have a2' := a0 2 (by decide)
  have a3' := a0 3 (by decide)
  have a4' := a0 4 (by decide)
  have a5' := a0 5 (by decide)
  have a6' := a0 6 (by decide)
  have a7' := a0 7 (by decide)
  have a8' := a0 8 (by decide)
  have a9' := a0 9 (by decide)
  have a10' := a0 10 (by decide)
  have a11' := a0 11 (by decide)
  have a12' := a0 12 (by decide)
  have a13' := a0 13 (by decide)
  have a14' := a0 14 (by decide)
  have a15' := a0 15 (by decide)
  have HV := Lib.hid hV.symm
  have HV0 := Lib.hid hV0
  have HV1 := Lib.hid hV1
  clear hV hV0 hV1 a0
  go_enter Tryd.func6, Tryd.ntmps6
  go_upto_region 1 with fail
  rw [HV.out]
  clear HV
  go_wp2
  clear a0' a1' a2' a3' a4' a5' a6' a7' a8' a9' a10' a11' a12' a13' a14' a15'
  have HS : Hid (∀ (n : Int) (X : World), Calls Tryd.prog 20 #[.int .i64 n] X fun e w' => e = .returned (.int .i64 (wrap32 n)) ∧ X = w') := fun n X => by
    have := rSigned_any n X
    rw [w6432] at this
    exact this.mono fun _ _ ⟨h1, h2⟩ => ⟨h1, h2.symm⟩
  go_loop [7] (fun i => ∃ k : Nat, k ≤ 16 ∧ i = .int .i64 k ∧ Hid (∀ j, j < k → in32 (m.r j))) (fun i => 16 - (intOf i).toNat)
  case atStart => exact ⟨0, Nat.zero_le _, rfl, fun j hj => absurd hj (by omega)⟩
  case round =>
    obtain ⟨k, hk, rfl, HA⟩ := hrel
    by_cases hlt : k < 16
    · have hstep : ∀ q, q = m.r k → in32 q → ∀ j, j < k + 1 → in32 (m.r j) := fun q hq hin j hj => by
        by_cases e : j = k
        · rw [e, ← hq]; exact hin
        · exact HA.out j (by omega)
      have HSTEP := Lib.hid hstep
      clear hstep HA
      have hix := regIndex m.r k hlt
      have hk1 : (k : Int) < 16 := by omega
      by_cases hq : wrap32 (m.r k) = m.r k
      · have hq2 : (m.r k != wrap32 (m.r k)) = false := by simp [hq]
        have HN := Lib.hid (HSTEP.out (m.r k) rfl (by rw [← hq]; exact w32_bd _))
        clear HSTEP hq
        go_wp2_with (first | (go_at_call 20; refine (HS.out _ _).mono ?_; rintro e w' ⟨rfl, rfl⟩) | fail)
        exact ⟨⟨k + 1, by omega, by go_num, HN⟩, by simp [intOf]; omega⟩
      · have hq2 : (m.r k != wrap32 (m.r k)) = true := by simp; exact fun e => hq e.symm
        clear HSTEP hq
        go_wp2_with (first | (go_at_call 20; refine (HS.out _ _).mono ?_; rintro e w' ⟨rfl, rfl⟩) | fail)
        go_ret
        exact ⟨false, rfl, HV0.out, fun h => absurd h (by decide)⟩
    · have hk1 : ¬ (k : Int) < 16 := by omega
      obtain rfl : k = 16 := by omega
      have HAll : Hid (∀ k, k < 16 → in32 (m.r k)) := HA
      have HBQ : Hid (∀ nq, Below w.heap.size w (V.drewN nq)) := fun nq => HV0.out.trans (Go.Joins.below_draws _ V nq)
      have HSQ : Hid (∀ (n : Int) (X : World), Calls Tryd.prog 20 #[.int .i64 n] X fun e w' => e = .returned (.int .i64 (wrap32 n)) ∧ w' = X) := fun n X => by
        have := rSigned_any n X
        rw [w6432] at this
        exact this
      obtain ⟨_, x17, x18, x19, _, _, _, x23⟩ := mcs HV1.out
      clear HV1 HA
      by_cases g0 : 0 ≤ m.base
      · have q0 : decide (0 ≤ m.base) = true := decide_eq_true g0
        by_cases g1 : m.base ≤ 1048576
        · have q1 : decide (m.base ≤ 1048576) = true := decide_eq_true g1
          by_cases g2 : 0 ≤ m.st
          · have q2 : decide (0 ≤ m.st) = true := decide_eq_true g2
            by_cases g3 : m.st ≤ 1000000
            · have q3 : decide (m.st ≤ 1000000) = true := decide_eq_true g3
              by_cases g4 : m.pc = wrap32 m.pc
              · have q4 : (m.pc == wrap32 m.pc) = true := beq_iff_eq.2 g4
                by_cases g5 : m.pr = wrap32 m.pr
                · have q5 : (m.pr == wrap32 m.pr) = true := beq_iff_eq.2 g5
                  have HG := Lib.hid (And.intro HAll.out (And.intro g0 (And.intro g1 (And.intro g2 (And.intro g3 (And.intro (show in32 m.pc by rw [g4]; exact w32_bd _) (show in32 m.pr by rw [g5]; exact w32_bd _)))))))
                  clear g0 g1 g2 g3 g4 g5
                  go_wp2
                  go_quiet (first | (go_at_call 20; refine Calls.quiet_of_same (HSQ.out _ _)))
                  go_wp2
                  go_ret
                  exact ⟨true, rfl, HBQ.out _, fun _ => HG.out⟩
                · have q5 : (m.pr == wrap32 m.pr) = false := beq_eq_false_iff_ne.2 g5
                  clear g5 g4
                  go_wp2
                  go_quiet (first | (go_at_call 20; refine Calls.quiet_of_same (HSQ.out _ _)))
                  go_wp2
                  go_ret
                  exact ⟨false, rfl, HBQ.out _, fun h => absurd h (by decide)⟩
              · have q4 : (m.pc == wrap32 m.pc) = false := beq_eq_false_iff_ne.2 g4
                clear g4
                go_wp2
                go_quiet (first | (go_at_call 20; refine Calls.quiet_of_same (HSQ.out _ _)))
                go_wp2
                go_ret
                exact ⟨false, rfl, HBQ.out _, fun h => absurd h (by decide)⟩
            · have q3 : decide (m.st ≤ 1000000) = false := decide_eq_false g3
              clear g3
              go_wp2
              go_quiet (first | (go_at_call 20; refine Calls.quiet_of_same (HSQ.out _ _)))
              go_wp2
              go_ret
              exact ⟨false, rfl, HBQ.out _, fun h => absurd h (by decide)⟩
          · have q2 : decide (0 ≤ m.st) = false := decide_eq_false g2
            clear g2
            go_wp2
            go_quiet (first | (go_at_call 20; refine Calls.quiet_of_same (HSQ.out _ _)))
            go_wp2
            go_ret
            exact ⟨false, rfl, HBQ.out _, fun h => absurd h (by decide)⟩
        · have q1 : decide (m.base ≤ 1048576) = false := decide_eq_false g1
          clear g1
          go_wp2
          go_quiet (first | (go_at_call 20; refine Calls.quiet_of_same (HSQ.out _ _)))
          go_wp2
          go_ret
          exact ⟨false, rfl, HBQ.out _, fun h => absurd h (by decide)⟩
      · have q0 : decide (0 ≤ m.base) = false := decide_eq_false g0
        clear g0
        go_wp2
        go_quiet (first | (go_at_call 20; refine Calls.quiet_of_same (HSQ.out _ _)))
        go_wp2
        go_ret
        exact ⟨false, rfl, HBQ.out _, fun h => absurd h (by decide)⟩

end Go.Proofs.YtabepbaldadmgaaDoor

namespace Go.Proofs.YtabepbaldadmgaaDoor
open Go.RowKit Isa

theorem run_more : ∀ (n n' : Nat) (m : Ma), n ≤ n' → runE n m = 0 → runE n' m = 0 ∧ runM n' m = runM n m
  | 0, _, m, _, h => absurd (show (13 : Int) = 0 from h) (by decide)
  | n + 1, 0, _, hle, _ => by omega
  | n + 1, n' + 1, m, hle, h => by
    rw [runE] at h ⊢
    rw [runM, runM]
    by_cases h1 : stepE m ≠ 0
    · rw [if_pos h1] at h
      exact absurd h h1
    · rw [if_neg h1] at h ⊢
      rw [if_neg h1, if_neg h1]
      by_cases h2 : stepD m = true
      · rw [if_pos h2, if_pos h2, if_pos h2]
        exact ⟨rfl, rfl⟩
      · rw [if_neg h2] at h ⊢
        rw [if_neg h2, if_neg h2]
        exact run_more n n' (stepM m) (by omega) h

/-- The machine M is what comes of m in k steps, none of which was the last. -/
structure Reach (m : Ma) (k : Nat) (M : Ma) : Prop where
  rn : Runs M k
  all : ∀ j, runE (k + j) m = runE j M ∧ runM (k + j) m = runM j M
theorem Reach.start {m : Ma} (h : Runs m 0) : Reach m 0 m := ⟨h, fun j => by rw [Nat.zero_add]; exact ⟨rfl, rfl⟩⟩
theorem Reach.step {m : Ma} {k : Nat} {M : Ma} (h : Reach m k M) (h0 : stepE M = 0) (hd : stepD M = false) : Reach m (k + 1) (stepM M) :=
  ⟨(runs_step h.rn (stepE_fetch h0)).1, fun j => by
    have := h.all (j + 1)
    rw [show k + 1 + j = k + (j + 1) by omega, this.1, this.2, runE, runM, if_neg (by simp [h0]), if_neg (by simp [hd]), if_neg (by simp [h0]), if_neg (by simp [hd])]
    exact ⟨rfl, rfl⟩⟩
theorem Reach.fuel {m : Ma} {k : Nat} {M : Ma} (h : Reach m k M) : runE k m = 13 := by
  have := (h.all 0).1
  exact this
theorem Reach.lt {m : Ma} {k n : Nat} {M : Ma} (h : Reach m k M) (hn : runE n m = 0) (hk : k ≤ n) : k < n ∧ stepE M = 0 ∧ (stepD M = true → runM n m = stepM M) := by
  have hlt : k < n := by
    rcases Nat.lt_or_ge k n with h1 | h1
    · exact h1
    · have e : k = n := by omega
      rw [← e, h.fuel] at hn
      exact absurd hn (by decide)
  have := h.all (n - k - 1 + 1)
  rw [show k + (n - k - 1 + 1) = n by omega, hn, runE, runM] at this
  obtain ⟨h1, h2⟩ := this
  by_cases h3 : stepE M ≠ 0
  · rw [if_pos h3] at h1
    exact absurd h1.symm h3
  · have h3' : stepE M = 0 := by simpa using h3
    refine ⟨hlt, h3', fun hd => ?_⟩
    rw [if_neg h3, if_pos hd] at h2
    exact h2

/-- The value reads as a machine; nothing of it lies in the block q. -/
def MVn (q : Nat) (w : World) (v : Value) (m : Ma) (sy : List Sy) : Prop := ∃ ba bc s0 s2 ta tc, v = .agg (mC m ba bc (.slice s0 sy.length s2) ta tc) ∧ BRd w ba m.by' ∧ TRd w ta m.told ∧ SrcOf w s0 sy.length (scells sy) ∧ (∀ a, ba = some a → 0 < m.by'.length → a.block ≠ q) ∧ (∀ a, ta = some a → 0 < m.told.length → a.block ≠ q) ∧ (∀ a, s0 = some a → 0 < sy.length → a.block ≠ q)
theorem MVn.mv {q : Nat} {w : World} {v : Value} {m : Ma} {sy : List Sy} (h : MVn q w v m sy) : MV w v m sy := by
  obtain ⟨ba, bc, s0, s2, ta, tc, e, h1, h2, h3, _⟩ := h
  exact ⟨ba, bc, s0, s2, ta, tc, e, h1, h2, h3⟩
theorem MVb.n {B q : Nat} {w : World} {v : Value} {m : Ma} {sy : List Sy} (h : MVb B w v m sy) (hq : q < B) : MVn q w v m sy := by
  obtain ⟨ba, bc, s0, s2, ta, tc, e, h1, h2, h3, h4, h5, h6⟩ := h
  exact ⟨ba, bc, s0, s2, ta, tc, e, h1, h2, h3, fun a ha h0 => by have := h4 a ha h0; omega, fun a ha h0 => by have := h5 a ha h0; omega, fun a ha h0 => by have := h6 a ha h0; omega⟩
theorem MV.n {q : Nat} {w : World} {v : Value} {m : Ma} {sy : List Sy} (h : MV w v m sy) (hq : w.heap.size ≤ q) : MVn q w v m sy := by
  obtain ⟨ba, bc, s0, s2, ta, tc, e, h1, h2, h3⟩ := h
  refine ⟨ba, bc, s0, s2, ta, tc, e, h1, h2, h3, fun a ha h0 => ?_, fun a ha h0 => ?_, fun a ha h0 => ?_⟩
  · obtain ⟨b, off, e1, hl, _⟩ := h1 h0
    rw [ha] at e1
    cases e1
    show b ≠ q
    omega
  · obtain ⟨b, off, e1, hl, _⟩ := h2 h0
    rw [ha] at e1
    cases e1
    show b ≠ q
    omega
  · obtain ⟨b, off, e1, hl, _⟩ := h3 h0
    rw [ha] at e1
    cases e1
    show b ≠ q
    omega
theorem MVn.next {q : Nat} {w w' : World} {v : Value} {m : Ma} {sy : List Sy} (h : MVn q w v m sy) (hb : Below w.heap.size w w') : MVn q w' v m sy := by
  obtain ⟨ba, bc, s0, s2, ta, tc, e, h1, h2, h3, h4⟩ := h
  exact ⟨ba, bc, s0, s2, ta, tc, e, h1.next hb, h2.next hb, h3.below hb (Nat.le_refl _), h4⟩
theorem cell_row {W : World} {q : Nat} {c : Array Value} {p : Addr} (h : p.block ≠ q) : (W.setRow q c).cell? p = W.cell? p := World.cell?_of_block (setRow_other W q p.block c h)
theorem MVn.row {q : Nat} {w : World} {v : Value} {m : Ma} {sy : List Sy} (h : MVn q w v m sy) (c : Array Value) : MVn q (w.setRow q c) v m sy := by
  obtain ⟨ba, bc, s0, s2, ta, tc, e, h1, h2, h3, h4, h5, h6⟩ := h
  have hz : (w.setRow q c).heap.size = w.heap.size := by simp [World.setRow]
  refine ⟨ba, bc, s0, s2, ta, tc, e, fun h0 => ?_, fun h0 => ?_, fun h0 => ?_, h4, h5, h6⟩
  · obtain ⟨b, off, e1, hl, hc⟩ := h1 h0
    exact ⟨b, off, e1, by rw [hz]; exact hl, fun i hi => by rw [cell_row (show b ≠ q from h4 ⟨b, off, none⟩ e1 h0)]; exact hc i hi⟩
  · obtain ⟨b, off, e1, hl, hc⟩ := h2 h0
    exact ⟨b, off, e1, by rw [hz]; exact hl, fun i hi => by rw [cell_row (show b ≠ q from h5 ⟨b, off, none⟩ e1 h0)]; exact hc i hi⟩
  · obtain ⟨b, off, e1, hl, hc⟩ := h3 h0
    exact ⟨b, off, e1, by rw [hz]; exact hl, fun j v hj => by rw [cell_row (show b ≠ q from h6 ⟨b, off, none⟩ e1 h0)]; exact hc j v hj⟩
theorem MVn.form {q : Nat} {w : World} {c : Array Value} {m : Ma} {sy : List Sy} (h : MVn q w (.agg c) m sy) : (Tryd.prog.info? 29).map (·.size) = some c.size ∧ c.all (·.oneCell') = true ∧ zC.size = c.size := by
  obtain ⟨ba, bc, s0, s2, ta, tc, e, _⟩ := h
  cases e
  exact ⟨mSize _ _ _ _ _ _, mAll _ _ _ _ _ _ _ _, rfl⟩
theorem MV.form {w : World} {v : Value} {m : Ma} {sy : List Sy} (h : MV w v m sy) : ∃ c, v = .agg c ∧ (Tryd.prog.info? 29).map (·.size) = some c.size ∧ c.all (·.oneCell') = true ∧ zC.size = c.size := by
  obtain ⟨ba, bc, s0, s2, ta, tc, e, _⟩ := h
  exact ⟨_, e, mSize _ _ _ _ _ _, mAll _ _ _ _ _ _ _ _, rfl⟩

theorem Runs.up {m : Ma} {k k' : Nat} (h : Runs m k) (hk : k ≤ k') : Runs m k' := ⟨h.b0, h.b1, h.bl, by have := h.tl; omega, h.reg, h.pc, h.pr, h.st0, by have := h.st1; omega⟩
theorem run_runs : ∀ (n : Nat) (m : Ma) (k : Nat), Runs m k → runE n m = 0 → Runs (runM n m) (k + n)
  | 0, _, _, _, h => absurd (show (13 : Int) = 0 from h) (by decide)
  | n + 1, m, k, hR, h => by
    rw [runE] at h
    rw [runM]
    by_cases h1 : stepE m ≠ 0
    · rw [if_pos h1] at h
      exact absurd h h1
    · have h1' : stepE m = 0 := by simpa using h1
      have h2 := (runs_step hR (stepE_fetch h1')).1
      rw [if_neg h1] at h ⊢
      by_cases hd : stepD m = true
      · rw [if_pos hd]
        exact h2.up (by omega)
      · rw [if_neg hd] at h ⊢
        exact (run_runs n (stepM m) (k + 1) h2 h).up (by omega)

end Go.Proofs.YtabepbaldadmgaaDoor
