/- The contract of the document's own SameLines at equal lists. -/
import Derived.Test.YtajeijhmlkbjgaaDoorAlive
namespace Go.Proofs.YtajeijhmlkbjgaaDoor
open Go.RowKit

theorem TReads.draws {w : World} {v : Value} {ts : List Tok} (h : TReads w v ts) (n : Nat) : TReads (w.drewN n) v ts := h.below (Go.Joins.below_draws w.heap.size w n) (Nat.le_refl _)

theorem sameTokens_draws (va vb : Value) (ts : List Tok) (w : World) (ha : TReads w va ts) (hb : TReads w vb ts) :
    Calls Tryd.prog 29 #[va, vb] w fun e w' => e = .returned (.bool true) ∧ ∃ m, w' = w.drewN m := by
  obtain ⟨ad, ca, rfl, hm, hca⟩ := ha
  obtain ⟨bd, cb, rfl, _, hcb⟩ := hb
  unfold maxLen at hm
  go_enter Tryd.func29, Tryd.ntmps29
  go_wp2
  go_loopw [13] (fun i wr => ∃ k : Nat, k ≤ ts.length ∧ i = .int .i64 k ∧ Below w.heap.size w wr ∧ Hid (∃ m, wr = w.drewN m)) (fun i _ => ts.length - (intOf i).toNat)
  case atStart => exact ⟨0, Nat.zero_le _, rfl, Below.refl _ _, ⟨0, rfl⟩⟩
  case round =>
    obtain ⟨k, hk, rfl, hB, HD⟩ := hrel
    by_cases hlt : k < ts.length
    · have hk1 : (k : Int) < ts.length := by omega
      obtain ⟨b1, o1, rfl, hl1, hc1⟩ := hca (by omega)
      obtain ⟨b2, o2, rfl, hl2, hc2⟩ := hcb (by omega)
      obtain ⟨x0, x1, x2⟩ := hc1 k hlt
      obtain ⟨y0, y1, y2⟩ := hc2 k hlt
      rw [← hB.cell (by exact hl1)] at x0 x1 x2
      rw [← hB.cell (by exact hl2)] at y0 y1 y2
      have HB : Hid (Below w.heap.size w wr) := hB
      clear hc1 hc2 hca hcb hB
      generalize ts[k].kind = kd at *
      generalize ts[k].n = nn at *
      generalize ts[k].text = tx at *
      go_wp2
      go_quiet (fail)
      go_wp2
      refine ⟨⟨k + 1, by omega, by go_num, below_drewN HB.out nq, ?_⟩, by simp [intOf]; omega⟩
      obtain ⟨m, hm⟩ := HD.out
      exact ⟨m + nq, by rw [hm, World.drewN_drewN]⟩
    · have hk1 : ¬ (k : Int) < ts.length := by omega
      go_wp2
      go_ret
      exact ⟨rfl, HD.out⟩

theorem sameLines_true (va vb : Value) (ls : List Ln) (w : World) (ha : LReads w va ls) (hb : LReads w vb ls) :
    Calls Tryd.prog 36 #[va, vb] w fun e w' => e = .returned (.bool true) ∧ Below w.heap.size w w' := by
  obtain ⟨ad, ca, rfl, hm, hca⟩ := ha
  obtain ⟨bd, cb, rfl, _, hcb⟩ := hb
  unfold maxLen at hm
  go_enter Tryd.func36, Tryd.ntmps36
  go_wp2
  go_loopw [13] (fun i wr => ∃ k : Nat, k ≤ ls.length ∧ i = .int .i64 k ∧ Below w.heap.size w wr) (fun i _ => ls.length - (intOf i).toNat)
  case atStart => exact ⟨0, Nat.zero_le _, rfl, Below.refl _ _⟩
  case round =>
    obtain ⟨k, hk, rfl, hB⟩ := hrel
    by_cases hlt : k < ls.length
    · have hk1 : (k : Int) < ls.length := by omega
      obtain ⟨b1, o1, rfl, hl1, hc1⟩ := hca (by omega)
      obtain ⟨b2, o2, rfl, hl2, hc2⟩ := hcb (by omega)
      obtain ⟨x0, t1, x1, r1⟩ := hc1 k hlt
      obtain ⟨y0, t2, y1, r2⟩ := hc2 k hlt
      rw [← hB.cell (by exact hl1)] at x0 x1
      rw [← hB.cell (by exact hl2)] at y0 y1
      have HA : Hid (∀ n, TReads (wr.drewN n) t1 ls[k].toks) := fun n => (r1.below hB (Nat.le_refl _)).draws n
      have HC : Hid (∀ n, TReads (wr.drewN n) t2 ls[k].toks) := fun n => (r2.below hB (Nat.le_refl _)).draws n
      have HB : Hid (Below w.heap.size w wr) := hB
      clear hc1 hc2 hca hcb hB r1 r2
      generalize ls[k].pos = p at *
      generalize ls[k].toks = tk at *
      go_wp2
      go_quiet ((go_at_call 29; exact Calls.quiet_of (sameTokens_draws _ _ tk _ (HA.out _) (HC.out _))))
      go_wp2
      exact ⟨⟨k + 1, by omega, by go_num, below_drewN HB.out nq⟩, by simp [intOf]; omega⟩
    · have hk1 : ¬ (k : Int) < ls.length := by omega
      go_wp2
      go_ret
      exact ⟨rfl, hB⟩

end Go.Proofs.YtajeijhmlkbjgaaDoor
