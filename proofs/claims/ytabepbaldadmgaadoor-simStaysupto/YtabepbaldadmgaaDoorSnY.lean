/- SimParts: the mathematics; machines that avoid a block. -/
import Derived.Test.YtabepbaldadmgaaDoorSnX
import Derived.Test.YtabepbaldadmgaaDoorPut47
namespace Go.Proofs.YtabepbaldadmgaaDoor
open Go.RowKit Isa

theorem run_more : ∀ (n n' : Nat) (m : Ma), n ≤ n' → runE n m = 0 → runE n' m = 0 ∧ runM n' m = runM n m
  | 0, _, m, _, h => absurd (show (13 : Int) = 0 from h) (by decide)
  | n + 1, 0, _, hle, _ => by omega
  | n + 1, n' + 1, m, hle, h => by
    rw [runE] at h ⊢
    rw [runM, runM]
    by_cases h1 : stepE m ≠ 0
    · rw [if_pos h1] at h
      exact absurd h h1
    · rw [if_neg h1] at h ⊢
      rw [if_neg h1, if_neg h1]
      by_cases h2 : stepD m = true
      · rw [if_pos h2, if_pos h2, if_pos h2]
        exact ⟨rfl, rfl⟩
      · rw [if_neg h2] at h ⊢
        rw [if_neg h2, if_neg h2]
        exact run_more n n' (stepM m) (by omega) h

/-- The machine M is what comes of m in k steps, none of which was the last. -/
structure Reach (m : Ma) (k : Nat) (M : Ma) : Prop where
  rn : Runs M k
  all : ∀ j, runE (k + j) m = runE j M ∧ runM (k + j) m = runM j M
theorem Reach.start {m : Ma} (h : Runs m 0) : Reach m 0 m := ⟨h, fun j => by rw [Nat.zero_add]; exact ⟨rfl, rfl⟩⟩
theorem Reach.step {m : Ma} {k : Nat} {M : Ma} (h : Reach m k M) (h0 : stepE M = 0) (hd : stepD M = false) : Reach m (k + 1) (stepM M) :=
  ⟨(runs_step h.rn (stepE_fetch h0)).1, fun j => by
    have := h.all (j + 1)
    rw [show k + 1 + j = k + (j + 1) by omega, this.1, this.2, runE, runM, if_neg (by simp [h0]), if_neg (by simp [hd]), if_neg (by simp [h0]), if_neg (by simp [hd])]
    exact ⟨rfl, rfl⟩⟩
theorem Reach.fuel {m : Ma} {k : Nat} {M : Ma} (h : Reach m k M) : runE k m = 13 := by
  have := (h.all 0).1
  exact this
theorem Reach.lt {m : Ma} {k n : Nat} {M : Ma} (h : Reach m k M) (hn : runE n m = 0) (hk : k ≤ n) : k < n ∧ stepE M = 0 ∧ (stepD M = true → runM n m = stepM M) := by
  have hlt : k < n := by
    rcases Nat.lt_or_ge k n with h1 | h1
    · exact h1
    · have e : k = n := by omega
      rw [← e, h.fuel] at hn
      exact absurd hn (by decide)
  have := h.all (n - k - 1 + 1)
  rw [show k + (n - k - 1 + 1) = n by omega, hn, runE, runM] at this
  obtain ⟨h1, h2⟩ := this
  by_cases h3 : stepE M ≠ 0
  · rw [if_pos h3] at h1
    exact absurd h1.symm h3
  · have h3' : stepE M = 0 := by simpa using h3
    refine ⟨hlt, h3', fun hd => ?_⟩
    rw [if_neg h3, if_pos hd] at h2
    exact h2

/-- The value reads as a machine; nothing of it lies in the block q. -/
def MVn (q : Nat) (w : World) (v : Value) (m : Ma) (sy : List Sy) : Prop := ∃ ba bc s0 s2 ta tc, v = .agg (mC m ba bc (.slice s0 sy.length s2) ta tc) ∧ BRd w ba m.by' ∧ TRd w ta m.told ∧ SrcOf w s0 sy.length (scells sy) ∧ (∀ a, ba = some a → 0 < m.by'.length → a.block ≠ q) ∧ (∀ a, ta = some a → 0 < m.told.length → a.block ≠ q) ∧ (∀ a, s0 = some a → 0 < sy.length → a.block ≠ q)
theorem MVn.mv {q : Nat} {w : World} {v : Value} {m : Ma} {sy : List Sy} (h : MVn q w v m sy) : MV w v m sy := by
  obtain ⟨ba, bc, s0, s2, ta, tc, e, h1, h2, h3, _⟩ := h
  exact ⟨ba, bc, s0, s2, ta, tc, e, h1, h2, h3⟩
theorem MVb.n {B q : Nat} {w : World} {v : Value} {m : Ma} {sy : List Sy} (h : MVb B w v m sy) (hq : q < B) : MVn q w v m sy := by
  obtain ⟨ba, bc, s0, s2, ta, tc, e, h1, h2, h3, h4, h5, h6⟩ := h
  exact ⟨ba, bc, s0, s2, ta, tc, e, h1, h2, h3, fun a ha h0 => by have := h4 a ha h0; omega, fun a ha h0 => by have := h5 a ha h0; omega, fun a ha h0 => by have := h6 a ha h0; omega⟩
theorem MV.n {q : Nat} {w : World} {v : Value} {m : Ma} {sy : List Sy} (h : MV w v m sy) (hq : w.heap.size ≤ q) : MVn q w v m sy := by
  obtain ⟨ba, bc, s0, s2, ta, tc, e, h1, h2, h3⟩ := h
  refine ⟨ba, bc, s0, s2, ta, tc, e, h1, h2, h3, fun a ha h0 => ?_, fun a ha h0 => ?_, fun a ha h0 => ?_⟩
  · obtain ⟨b, off, e1, hl, _⟩ := h1 h0
    rw [ha] at e1
    cases e1
    show b ≠ q
    omega
  · obtain ⟨b, off, e1, hl, _⟩ := h2 h0
    rw [ha] at e1
    cases e1
    show b ≠ q
    omega
  · obtain ⟨b, off, e1, hl, _⟩ := h3 h0
    rw [ha] at e1
    cases e1
    show b ≠ q
    omega
theorem MVn.next {q : Nat} {w w' : World} {v : Value} {m : Ma} {sy : List Sy} (h : MVn q w v m sy) (hb : Below w.heap.size w w') : MVn q w' v m sy := by
  obtain ⟨ba, bc, s0, s2, ta, tc, e, h1, h2, h3, h4⟩ := h
  exact ⟨ba, bc, s0, s2, ta, tc, e, h1.next hb, h2.next hb, h3.below hb (Nat.le_refl _), h4⟩
theorem cell_row {W : World} {q : Nat} {c : Array Value} {p : Addr} (h : p.block ≠ q) : (W.setRow q c).cell? p = W.cell? p := World.cell?_of_block (setRow_other W q p.block c h)
theorem MVn.row {q : Nat} {w : World} {v : Value} {m : Ma} {sy : List Sy} (h : MVn q w v m sy) (c : Array Value) : MVn q (w.setRow q c) v m sy := by
  obtain ⟨ba, bc, s0, s2, ta, tc, e, h1, h2, h3, h4, h5, h6⟩ := h
  have hz : (w.setRow q c).heap.size = w.heap.size := by simp [World.setRow]
  refine ⟨ba, bc, s0, s2, ta, tc, e, fun h0 => ?_, fun h0 => ?_, fun h0 => ?_, h4, h5, h6⟩
  · obtain ⟨b, off, e1, hl, hc⟩ := h1 h0
    exact ⟨b, off, e1, by rw [hz]; exact hl, fun i hi => by rw [cell_row (show b ≠ q from h4 ⟨b, off, none⟩ e1 h0)]; exact hc i hi⟩
  · obtain ⟨b, off, e1, hl, hc⟩ := h2 h0
    exact ⟨b, off, e1, by rw [hz]; exact hl, fun i hi => by rw [cell_row (show b ≠ q from h5 ⟨b, off, none⟩ e1 h0)]; exact hc i hi⟩
  · obtain ⟨b, off, e1, hl, hc⟩ := h3 h0
    exact ⟨b, off, e1, by rw [hz]; exact hl, fun j v hj => by rw [cell_row (show b ≠ q from h6 ⟨b, off, none⟩ e1 h0)]; exact hc j v hj⟩
theorem MVn.form {q : Nat} {w : World} {c : Array Value} {m : Ma} {sy : List Sy} (h : MVn q w (.agg c) m sy) : (Tryd.prog.info? 29).map (·.size) = some c.size ∧ c.all (·.oneCell') = true ∧ zC.size = c.size := by
  obtain ⟨ba, bc, s0, s2, ta, tc, e, _⟩ := h
  cases e
  exact ⟨mSize _ _ _ _ _ _, mAll _ _ _ _ _ _ _ _, rfl⟩
theorem MV.form {w : World} {v : Value} {m : Ma} {sy : List Sy} (h : MV w v m sy) : ∃ c, v = .agg c ∧ (Tryd.prog.info? 29).map (·.size) = some c.size ∧ c.all (·.oneCell') = true ∧ zC.size = c.size := by
  obtain ⟨ba, bc, s0, s2, ta, tc, e, _⟩ := h
  exact ⟨_, e, mSize _ _ _ _ _ _, mAll _ _ _ _ _ _ _ _, rfl⟩

theorem Runs.up {m : Ma} {k k' : Nat} (h : Runs m k) (hk : k ≤ k') : Runs m k' := ⟨h.b0, h.b1, h.bl, by have := h.tl; omega, h.reg, h.pc, h.pr, h.st0, by have := h.st1; omega⟩
theorem run_runs : ∀ (n : Nat) (m : Ma) (k : Nat), Runs m k → runE n m = 0 → Runs (runM n m) (k + n)
  | 0, _, _, _, h => absurd (show (13 : Int) = 0 from h) (by decide)
  | n + 1, m, k, hR, h => by
    rw [runE] at h
    rw [runM]
    by_cases h1 : stepE m ≠ 0
    · rw [if_pos h1] at h
      exact absurd h h1
    · have h1' : stepE m = 0 := by simpa using h1
      have h2 := (runs_step hR (stepE_fetch h1')).1
      rw [if_neg h1] at h ⊢
      by_cases hd : stepD m = true
      · rw [if_pos hd]
        exact h2.up (by omega)
      · rw [if_neg hd] at h ⊢
        exact (run_runs n (stepM m) (k + 1) h2 h).up (by omega)

end Go.Proofs.YtabepbaldadmgaaDoor
