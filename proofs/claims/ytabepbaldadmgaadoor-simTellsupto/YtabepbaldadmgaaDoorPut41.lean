/- The document's own Step, of any machine. Two appends of numbers: onto nothing, and one more. -/
import Derived.Test.YtabepbaldadmgaaDoorPut17
import Derived.Test.YtabepbaldadmgaaDoorSmX2
import Derived.Test.YtabepbaldadmgaaDoorSmX19
import Derived.Test.YtabepbaldadmgaaDoorSmX20
import Derived.Test.YtabepbaldadmgaaDoorSmX21
import Derived.Test.YtabepbaldadmgaaDoorSmX22
import Derived.Test.YtabepbaldadmgaaDoorSnC
import Derived.Deep.Upon
namespace Go.Proofs.YtabepbaldadmgaaDoor
open Go.RowKit Isa

/-- What Step answers. -/
def StPost (w : World) (m : Ma) (ba ta : Option Addr) (s0 : Option Addr) (s1 s2 : Nat) (e : Ending) (w' : World) : Prop :=
  Below w.heap.size w w' ∧ ((stepE m ≠ 0 ∧ e = .returned (.tuple #[.agg zC, .bool false, .int .i64 (stepE m)])) ∨
    (stepE m = 0 ∧ ∃ ba' bc' ta' tc', e = .returned (.tuple #[.agg (mC (stepM m) ba' bc' (.slice s0 s1 s2) ta' tc'), .bool (stepD m), .int .i64 0]) ∧ BRd w' ba' (stepM m).by' ∧ TRd w' ta' (stepM m).told ∧ NearA w ba ba' m.by' (stepM m).by' ∧ NearA w ta ta' m.told (stepM m).told))

theorem step_tail {m : Ma} (he : fetchE m m.pc = 0) (hend : ¬ (fV m m.pc 0 = 27 ∧ fV m m.pc 3 = 0)) (hl : ¬ leadsB (fV m m.pc 0) = false) (hb : ¬ (fV m m.pc 0 = 17 ∨ fV m m.pc 0 = 18)) :
    stepE m = if fetchE (preM m) (m.pc + 2) ≠ 0 then fetchE (preM m) (m.pc + 2) else if leadsB (fV (preM m) (m.pc + 2) 0) = true ∨ fV (preM m) (m.pc + 2) 0 = 27 then 8 else plainE (preM m) (fV (preM m) (m.pc + 2) 0) (fV (preM m) (m.pc + 2) 1) (fV (preM m) (m.pc + 2) 2) (fV (preM m) (m.pc + 2) 3) (m.pc + 2) := by
  unfold stepE; rw [if_neg (by simp [he]), if_neg hend, if_neg hl, if_neg hb]
theorem stepM_tail {m : Ma} (hend : ¬ (fV m m.pc 0 = 27 ∧ fV m m.pc 3 = 0)) (hl : ¬ leadsB (fV m m.pc 0) = false) (hb : ¬ (fV m m.pc 0 = 17 ∨ fV m m.pc 0 = 18)) :
    stepM m = { plainM (preM m) (fV (preM m) (m.pc + 2) 0) (fV (preM m) (m.pc + 2) 1) (fV (preM m) (m.pc + 2) 2) (fV (preM m) (m.pc + 2) 3) (m.pc + 2) with pc := destM m } := by
  unfold stepM; rw [if_neg hend, if_neg hl, if_neg hb]
theorem tail_any {m m2 : Ma} {ba ta : Option Addr} {s0 : Option Addr} {s1 s2 : Nat} {w : World} {args : Array Value} {dst : Int} (hb0 : 0 ≤ m2.base) (_hR : BRd w ba m.by') (_hT : TRd w ta m.told)
    (hE0 : stepE m = if fetchE m2 (m.pc + 2) ≠ 0 then fetchE m2 (m.pc + 2) else if leadsB (fV m2 (m.pc + 2) 0) = true ∨ (fV m2 (m.pc + 2) 0) = 27 then 8 else plainE m2 (fV m2 (m.pc + 2) 0) (fV m2 (m.pc + 2) 1) (fV m2 (m.pc + 2) 2) (fV m2 (m.pc + 2) 3) (m.pc + 2))
    (hM0 : stepM m = { plainM m2 (fV m2 (m.pc + 2) 0) (fV m2 (m.pc + 2) 1) (fV m2 (m.pc + 2) 2) (fV m2 (m.pc + 2) 3) (m.pc + 2) with pc := dst }) (e3 : stepD m = false)
    (cf : fetchE m2 (m.pc + 2) ≠ 0 → Calls Tryd.prog 8 args w fun e w' => e = .returned (.tuple #[.agg zC, .bool false, .int .i64 (fetchE m2 (m.pc + 2))]) ∧ Below w.heap.size w w')
    (cl : fetchE m2 (m.pc + 2) = 0 → leadsB (fV m2 (m.pc + 2) 0) = true → Calls Tryd.prog 8 args w fun e w' => e = .returned (.tuple #[.agg zC, .bool false, .int .i64 8]) ∧ Below w.heap.size w w')
    (ct : fetchE m2 (m.pc + 2) = 0 → leadsB (fV m2 (m.pc + 2) 0) = false → (fV m2 (m.pc + 2) 0) = 27 → Calls Tryd.prog 8 args w fun e w' => e = .returned (.tuple #[.agg zC, .bool false, .int .i64 8]) ∧ Below w.heap.size w w')
    (ce : fetchE m2 (m.pc + 2) = 0 → leadsB (fV m2 (m.pc + 2) 0) = false → (fV m2 (m.pc + 2) 0) ≠ 27 → ((fV m2 (m.pc + 2) 0) = 1 ∨ (3 ≤ (fV m2 (m.pc + 2) 0) ∧ (fV m2 (m.pc + 2) 0) ≤ 16) ∨ (23 ≤ (fV m2 (m.pc + 2) 0) ∧ (fV m2 (m.pc + 2) 0) ≤ 27)) → plainE m2 (fV m2 (m.pc + 2) 0) (fV m2 (m.pc + 2) 1) (fV m2 (m.pc + 2) 2) (fV m2 (m.pc + 2) 3) (m.pc + 2) ≠ 0 → Calls Tryd.prog 8 args w fun e w' => e = .returned (.tuple #[.agg zC, .bool false, .int .i64 (plainE m2 (fV m2 (m.pc + 2) 0) (fV m2 (m.pc + 2) 1) (fV m2 (m.pc + 2) 2) (fV m2 (m.pc + 2) 3) (m.pc + 2))]) ∧ Below w.heap.size w w')
    (cy : fetchE m2 (m.pc + 2) = 0 → leadsB (fV m2 (m.pc + 2) 0) = false → (fV m2 (m.pc + 2) 0) ≠ 27 → ((fV m2 (m.pc + 2) 0) = 1 ∨ (3 ≤ (fV m2 (m.pc + 2) 0) ∧ (fV m2 (m.pc + 2) 0) ≤ 16) ∨ (23 ≤ (fV m2 (m.pc + 2) 0) ∧ (fV m2 (m.pc + 2) 0) ≤ 27)) → plainE m2 (fV m2 (m.pc + 2) 0) (fV m2 (m.pc + 2) 1) (fV m2 (m.pc + 2) 2) (fV m2 (m.pc + 2) 3) (m.pc + 2) = 0 → Calls Tryd.prog 8 args w fun e w' => ∃ ba' bc' ta' tc', e = .returned (.tuple #[.agg (mC { plainM m2 (fV m2 (m.pc + 2) 0) (fV m2 (m.pc + 2) 1) (fV m2 (m.pc + 2) 2) (fV m2 (m.pc + 2) 3) (m.pc + 2) with pc := dst } ba' bc' (.slice s0 s1 s2) ta' tc'), .bool false, .int .i64 0]) ∧ Below w.heap.size w w' ∧ BRd w' ba' (plainM m2 (fV m2 (m.pc + 2) 0) (fV m2 (m.pc + 2) 1) (fV m2 (m.pc + 2) 2) (fV m2 (m.pc + 2) 3) (m.pc + 2)).by' ∧ TRd w' ta' (plainM m2 (fV m2 (m.pc + 2) 0) (fV m2 (m.pc + 2) 1) (fV m2 (m.pc + 2) 2) (fV m2 (m.pc + 2) 3) (m.pc + 2)).told ∧ NearA w ba ba' m.by' (plainM m2 (fV m2 (m.pc + 2) 0) (fV m2 (m.pc + 2) 1) (fV m2 (m.pc + 2) 2) (fV m2 (m.pc + 2) 3) (m.pc + 2)).by' ∧ NearA w ta ta' m.told (plainM m2 (fV m2 (m.pc + 2) 0) (fV m2 (m.pc + 2) 1) (fV m2 (m.pc + 2) 2) (fV m2 (m.pc + 2) 3) (m.pc + 2)).told) :
    Calls Tryd.prog 8 args w (StPost w m ba ta s0 s1 s2) := by
  by_cases hj : fetchE m2 (m.pc + 2) = 0
  · obtain ⟨_, o1, o2⟩ := fetch_in hb0 hj
    rw [if_neg (by simp [hj])] at hE0
    by_cases h1 : leadsB (fV m2 (m.pc + 2) 0) = true
    · rw [if_pos (Or.inl h1)] at hE0
      exact (cl hj h1).mono fun _ _ ⟨h, hb⟩ => ⟨hb, Or.inl ⟨by rw [hE0]; decide, by rw [hE0]; exact h⟩⟩
    · have h1' : leadsB (fV m2 (m.pc + 2) 0) = false := by simpa using h1
      by_cases h2 : (fV m2 (m.pc + 2) 0) = 27
      · rw [if_pos (Or.inr h2)] at hE0
        exact (ct hj h1' h2).mono fun _ _ ⟨h, hb⟩ => ⟨hb, Or.inl ⟨by rw [hE0]; decide, by rw [hE0]; exact h⟩⟩
      · rw [if_neg (by rintro (h | h) <;> contradiction)] at hE0
        have hop : (fV m2 (m.pc + 2) 0) = 1 ∨ (3 ≤ (fV m2 (m.pc + 2) 0) ∧ (fV m2 (m.pc + 2) 0) ≤ 16) ∨ (23 ≤ (fV m2 (m.pc + 2) 0) ∧ (fV m2 (m.pc + 2) 0) ≤ 27) := by
          unfold leadsB at h1'
          simp at h1'
          omega
        by_cases hE : plainE m2 (fV m2 (m.pc + 2) 0) (fV m2 (m.pc + 2) 1) (fV m2 (m.pc + 2) 2) (fV m2 (m.pc + 2) 3) (m.pc + 2) = 0
        · refine (cy hj h1' h2 hop hE).mono ?_
          rintro e w' ⟨ba', bc', ta', tc', h, hb, hr, ht, hn1, hn2⟩
          exact ⟨hb, Or.inr ⟨by rw [hE0]; exact hE, ba', bc', ta', tc', by rw [hM0, e3]; exact h, by rw [hM0]; exact hr, by rw [hM0]; exact ht, by rw [hM0]; exact hn1, by rw [hM0]; exact hn2⟩⟩
        · exact (ce hj h1' h2 hop hE).mono fun _ _ ⟨h, hb⟩ => ⟨hb, Or.inl ⟨by rw [hE0]; exact hE, by rw [hE0]; exact h⟩⟩
  · rw [if_pos hj] at hE0
    exact (cf hj).mono fun _ _ ⟨h, hb⟩ => ⟨hb, Or.inl ⟨by rw [hE0]; exact hj, by rw [hE0]; exact h⟩⟩

theorem step_any (hDec : DecOk) (hTr : TrapOk) (m : Ma) (ba : Option Addr) (bc : Nat) (s0 : Option Addr) (s1 s2 : Nat) (ta : Option Addr) (tc : Nat) (w : World) (hM : MOk m) (hp0 : -2147483648 ≤ m.pc) (hp1 : m.pc ≤ 4294967296) (hs0 : 0 ≤ m.st) (hs1 : m.st ≤ 1000000000) (hR : BRd w ba m.by') (hT : TRd w ta m.told) :
    Calls Tryd.prog 8 #[.agg (mC m ba bc (.slice s0 s1 s2) ta tc)] w (StPost w m ba ta s0 s1 s2) := by
  by_cases he : fetchE m m.pc = 0
  · obtain ⟨hpc, ho1, ho2⟩ := fetch_in hM.b0 he
    by_cases hend : fV m m.pc 0 = 27 ∧ fV m m.pc 3 = 0
    · have e1 : stepE m = 0 := by unfold stepE; simp [he, hend]
      have e2 : stepM m = { m with st := m.st + 1 } := by unfold stepM; rw [if_pos hend]
      have e3 : stepD m = true := by unfold stepD; simp [he, hend]
      exact (step_end hDec m ba bc s0 s1 s2 ta tc w hM hp0 hp1 hs0 hs1 hR he hend.1 hend.2).mono fun _ _ ⟨h1, hb⟩ => ⟨hb, Or.inr ⟨e1, ba, bc, ta, tc, by rw [e2, e3]; exact h1, by rw [e2]; exact hR.next hb, by rw [e2]; exact hT.next hb, Or.inl ⟨rfl, by rw [e2]⟩, Or.inl ⟨rfl, by rw [e2]⟩⟩⟩
    · have e3 : stepD m = false := by unfold stepD; simp only [he, true_and, decide_eq_false_iff_not]; exact hend
      by_cases hl : leadsB (fV m m.pc 0) = false
      · have hop : fV m m.pc 0 = 1 ∨ (3 ≤ fV m m.pc 0 ∧ fV m m.pc 0 ≤ 16) ∨ (23 ≤ fV m m.pc 0 ∧ fV m m.pc 0 ≤ 27) := by
          unfold leadsB at hl
          simp at hl
          omega
        have e1 : stepE m = plainE { m with st := m.st + 1 } (fV m m.pc 0) (fV m m.pc 1) (fV m m.pc 2) (fV m m.pc 3) m.pc := by unfold stepE; rw [if_neg (by simp [he]), if_neg hend, if_pos hl]
        have e2 : stepM m = { plainM { m with st := m.st + 1 } (fV m m.pc 0) (fV m m.pc 1) (fV m m.pc 2) (fV m m.pc 3) m.pc with pc := m.pc + 2 } := by unfold stepM; rw [if_neg hend, if_pos hl]
        by_cases hE : plainE { m with st := m.st + 1 } (fV m m.pc 0) (fV m m.pc 1) (fV m m.pc 2) (fV m m.pc 3) m.pc = 0
        · have key : ∀ {e w'}, (∃ ba' bc' ta' tc', e = Ending.returned (.tuple #[.agg (mC { plainM { m with st := m.st + 1 } (fV m m.pc 0) (fV m m.pc 1) (fV m m.pc 2) (fV m m.pc 3) m.pc with pc := m.pc + 2 } ba' bc' (.slice s0 s1 s2) ta' tc'), .bool false, .int .i64 0]) ∧ Below w.heap.size w w' ∧ BRd w' ba' (plainM { m with st := m.st + 1 } (fV m m.pc 0) (fV m m.pc 1) (fV m m.pc 2) (fV m m.pc 3) m.pc).by' ∧ TRd w' ta' (plainM { m with st := m.st + 1 } (fV m m.pc 0) (fV m m.pc 1) (fV m m.pc 2) (fV m m.pc 3) m.pc).told ∧ NearA w ba ba' m.by' (plainM { m with st := m.st + 1 } (fV m m.pc 0) (fV m m.pc 1) (fV m m.pc 2) (fV m m.pc 3) m.pc).by' ∧ NearA w ta ta' m.told (plainM { m with st := m.st + 1 } (fV m m.pc 0) (fV m m.pc 1) (fV m m.pc 2) (fV m m.pc 3) m.pc).told) → StPost w m ba ta s0 s1 s2 e w' := by
            rintro e w' ⟨ba', bc', ta', tc', h1, hb, hr, ht, hn1, hn2⟩
            exact ⟨hb, Or.inr ⟨by rw [e1]; exact hE, ba', bc', ta', tc', by rw [e2, e3]; exact h1, by rw [e2]; exact hr, by rw [e2]; exact ht, by rw [e2]; exact hn1, by rw [e2]; exact hn2⟩⟩
          by_cases h27 : fV m m.pc 0 = 27
          · exact (step_plain_t hDec m ba bc s0 s1 s2 ta tc w hM hp0 hp1 hs0 hs1 hR hTr hT he h27 (fun h => hend ⟨h27, h⟩) hop hpc hE).mono fun _ _ h => key h
          · exact (step_plain_o hDec m ba bc s0 s1 s2 ta tc w hM hp0 hp1 hs0 hs1 hR hTr hT he hl h27 hop hpc hE).mono fun _ _ h => key h
        · have key : ∀ {e w'}, (e = Ending.returned (.tuple #[.agg zC, .bool false, .int .i64 (plainE { m with st := m.st + 1 } (fV m m.pc 0) (fV m m.pc 1) (fV m m.pc 2) (fV m m.pc 3) m.pc)]) ∧ Below w.heap.size w w') → StPost w m ba ta s0 s1 s2 e w' := by
            rintro e w' ⟨h1, hb⟩
            exact ⟨hb, Or.inl ⟨by rw [e1]; exact hE, by rw [e1]; exact h1⟩⟩
          by_cases h27 : fV m m.pc 0 = 27
          · exact (step_plain_te hDec m ba bc s0 s1 s2 ta tc w hM hp0 hp1 hs0 hs1 hR hTr hT he h27 (fun h => hend ⟨h27, h⟩) hop hpc hE).mono fun _ _ h => key h
          · exact (step_plain_oe hDec m ba bc s0 s1 s2 ta tc w hM hp0 hp1 hs0 hs1 hR hTr hT he hl h27 hop hpc hE).mono fun _ _ h => key h
      · have hl' : leadsB (fV m m.pc 0) = true := by simpa using hl
        by_cases hb17 : fV m m.pc 0 = 17 ∨ fV m m.pc 0 = 18
        · have e1 : stepE m = 0 := by unfold stepE; rw [if_neg (by simp [he]), if_neg hend, if_neg hl, if_pos hb17]
          have e2 : stepM m = { m with st := m.st + 1, pc := if m.t = decide (fV m m.pc 0 = 17) then toI (fV m m.pc 0) (fV m m.pc 3) m.pc else m.pc + 2 } := by unfold stepM; rw [if_neg hend, if_neg hl, if_pos hb17]
          have key : ∀ {e w' v}, (if m.t = decide (fV m m.pc 0 = 17) then toI (fV m m.pc 0) (fV m m.pc 3) m.pc else m.pc + 2) = v → (e = Ending.returned (.tuple #[.agg (mC { m with st := m.st + 1, pc := v } ba bc (.slice s0 s1 s2) ta tc), .bool false, .int .i64 0]) ∧ Below w.heap.size w w') → StPost w m ba ta s0 s1 s2 e w' := by
            rintro e w' v hv ⟨h1, hb⟩
            exact ⟨hb, Or.inr ⟨e1, ba, bc, ta, tc, by rw [e2, e3, hv]; exact h1, by rw [e2]; exact hR.next hb, by rw [e2]; exact hT.next hb, Or.inl ⟨rfl, by rw [e2]⟩, Or.inl ⟨rfl, by rw [e2]⟩⟩⟩
          rcases hb17 with h0 | h0 <;> cases ht : m.t
          · exact (step_b17n hDec m ba bc s0 s1 s2 ta tc w hM hp0 hp1 hs0 hs1 hR he h0 ht hpc).mono fun _ _ h => key (by simp [ht, h0]) h
          · exact (step_b17y hDec m ba bc s0 s1 s2 ta tc w hM hp0 hp1 hs0 hs1 hR he h0 ht hpc).mono fun _ _ h => key (by simp [ht, h0]) h
          · exact (step_b18y hDec m ba bc s0 s1 s2 ta tc w hM hp0 hp1 hs0 hs1 hR he h0 ht hpc).mono fun _ _ h => key (by simp [ht, h0]) h
          · exact (step_b18n hDec m ba bc s0 s1 s2 ta tc w hM hp0 hp1 hs0 hs1 hR he h0 ht hpc).mono fun _ _ h => key (by simp [ht, h0]) h
        · have hop : fV m m.pc 0 = 2 ∨ fV m m.pc 0 = 19 ∨ fV m m.pc 0 = 20 ∨ fV m m.pc 0 = 21 ∨ fV m m.pc 0 = 22 := by
            unfold leadsB at hl'
            simp at hl'
            omega
          rcases hop with h0 | h0 | h0 | h0 | h0
          · have ep : preM m = { m with st := m.st + 1 } := by unfold preM; simp [h0]
            have ed : destM m = m.pr := by unfold destM; simp [h0]
            have hE0 := step_tail he hend hl hb17
            have hM0 := stepM_tail (m := m) hend hl hb17
            rw [ep] at hE0 hM0
            rw [ed] at hM0
            exact tail_any (m := m) (m2 := { m with st := m.st + 1 }) (dst := m.pr) (ba := ba) (ta := ta) hM.b0 hR hT hE0 hM0 e3 (fun hj => step_d2f hDec m ba bc s0 s1 s2 ta tc w hM hp0 hp1 hs0 hs1 hR he h0 hpc hj) (fun hj h1 => step_d2l hDec m ba bc s0 s1 s2 ta tc w hM hp0 hp1 hs0 hs1 hR he h0 hpc hj h1) (fun hj h1 h2 => step_d2t hDec m ba bc s0 s1 s2 ta tc w hM hp0 hp1 hs0 hs1 hR he h0 hpc hj h1 h2) (fun hj h1 h2 h3 h4 => step_d2e hDec m ba bc s0 s1 s2 ta tc w hM hp0 hp1 hs0 hs1 hR hTr hT he h0 hpc hj h1 h2 h3 h4) (fun hj h1 h2 h3 h4 => step_d2y hDec m ba bc s0 s1 s2 ta tc w hM hp0 hp1 hs0 hs1 hR hTr hT he h0 hpc hj h1 h2 h3 h4)
          · have ep : preM m = { m with st := m.st + 1 } := by unfold preM; simp [h0]
            have ed : destM m = toI 19 (fV m m.pc 3) m.pc := by unfold destM; simp [h0]
            have hE0 := step_tail he hend hl hb17
            have hM0 := stepM_tail (m := m) hend hl hb17
            rw [ep] at hE0 hM0
            rw [ed] at hM0
            exact tail_any (m := m) (m2 := { m with st := m.st + 1 }) (dst := toI 19 (fV m m.pc 3) m.pc) (ba := ba) (ta := ta) hM.b0 hR hT hE0 hM0 e3 (fun hj => step_d19f hDec m ba bc s0 s1 s2 ta tc w hM hp0 hp1 hs0 hs1 hR he h0 hpc hj) (fun hj h1 => step_d19l hDec m ba bc s0 s1 s2 ta tc w hM hp0 hp1 hs0 hs1 hR he h0 hpc hj h1) (fun hj h1 h2 => step_d19t hDec m ba bc s0 s1 s2 ta tc w hM hp0 hp1 hs0 hs1 hR he h0 hpc hj h1 h2) (fun hj h1 h2 h3 h4 => step_d19e hDec m ba bc s0 s1 s2 ta tc w hM hp0 hp1 hs0 hs1 hR hTr hT he h0 hpc hj h1 h2 h3 h4) (fun hj h1 h2 h3 h4 => step_d19y hDec m ba bc s0 s1 s2 ta tc w hM hp0 hp1 hs0 hs1 hR hTr hT he h0 hpc hj h1 h2 h3 h4)
          · have ep : preM m = { m with st := m.st + 1, pr := m.pc + 4 } := by unfold preM; simp [h0]
            have ed : destM m = toI 20 (fV m m.pc 3) m.pc := by unfold destM; simp [h0]
            have hE0 := step_tail he hend hl hb17
            have hM0 := stepM_tail (m := m) hend hl hb17
            rw [ep] at hE0 hM0
            rw [ed] at hM0
            exact tail_any (m := m) (m2 := { m with st := m.st + 1, pr := m.pc + 4 }) (dst := toI 20 (fV m m.pc 3) m.pc) (ba := ba) (ta := ta) hM.b0 hR hT hE0 hM0 e3 (fun hj => step_d20f hDec m ba bc s0 s1 s2 ta tc w hM hp0 hp1 hs0 hs1 hR he h0 hpc hj) (fun hj h1 => step_d20l hDec m ba bc s0 s1 s2 ta tc w hM hp0 hp1 hs0 hs1 hR he h0 hpc hj h1) (fun hj h1 h2 => step_d20t hDec m ba bc s0 s1 s2 ta tc w hM hp0 hp1 hs0 hs1 hR he h0 hpc hj h1 h2) (fun hj h1 h2 h3 h4 => step_d20e hDec m ba bc s0 s1 s2 ta tc w hM hp0 hp1 hs0 hs1 hR hTr hT he h0 hpc hj h1 h2 h3 h4) (fun hj h1 h2 h3 h4 => step_d20y hDec m ba bc s0 s1 s2 ta tc w hM hp0 hp1 hs0 hs1 hR hTr hT he h0 hpc hj h1 h2 h3 h4)
          · have ep : preM m = { m with st := m.st + 1 } := by unfold preM; simp [h0]
            have ed : destM m = m.r (fV m m.pc 1).toNat := by unfold destM; simp [h0]
            have hE0 := step_tail he hend hl hb17
            have hM0 := stepM_tail (m := m) hend hl hb17
            rw [ep] at hE0 hM0
            rw [ed] at hM0
            exact tail_any (m := m) (m2 := { m with st := m.st + 1 }) (dst := m.r (fV m m.pc 1).toNat) (ba := ba) (ta := ta) hM.b0 hR hT hE0 hM0 e3 (fun hj => step_d21f hDec m ba bc s0 s1 s2 ta tc w hM hp0 hp1 hs0 hs1 hR he h0 hpc hj) (fun hj h1 => step_d21l hDec m ba bc s0 s1 s2 ta tc w hM hp0 hp1 hs0 hs1 hR he h0 hpc hj h1) (fun hj h1 h2 => step_d21t hDec m ba bc s0 s1 s2 ta tc w hM hp0 hp1 hs0 hs1 hR he h0 hpc hj h1 h2) (fun hj h1 h2 h3 h4 => step_d21e hDec m ba bc s0 s1 s2 ta tc w hM hp0 hp1 hs0 hs1 hR hTr hT he h0 hpc hj h1 h2 h3 h4) (fun hj h1 h2 h3 h4 => step_d21y hDec m ba bc s0 s1 s2 ta tc w hM hp0 hp1 hs0 hs1 hR hTr hT he h0 hpc hj h1 h2 h3 h4)
          · have ep : preM m = { m with st := m.st + 1, pr := m.pc + 4 } := by unfold preM; simp [h0]
            have ed : destM m = m.r (fV m m.pc 1).toNat := by unfold destM; simp [h0]
            have hE0 := step_tail he hend hl hb17
            have hM0 := stepM_tail (m := m) hend hl hb17
            rw [ep] at hE0 hM0
            rw [ed] at hM0
            exact tail_any (m := m) (m2 := { m with st := m.st + 1, pr := m.pc + 4 }) (dst := m.r (fV m m.pc 1).toNat) (ba := ba) (ta := ta) hM.b0 hR hT hE0 hM0 e3 (fun hj => step_d22f hDec m ba bc s0 s1 s2 ta tc w hM hp0 hp1 hs0 hs1 hR he h0 hpc hj) (fun hj h1 => step_d22l hDec m ba bc s0 s1 s2 ta tc w hM hp0 hp1 hs0 hs1 hR he h0 hpc hj h1) (fun hj h1 h2 => step_d22t hDec m ba bc s0 s1 s2 ta tc w hM hp0 hp1 hs0 hs1 hR he h0 hpc hj h1 h2) (fun hj h1 h2 h3 h4 => step_d22e hDec m ba bc s0 s1 s2 ta tc w hM hp0 hp1 hs0 hs1 hR hTr hT he h0 hpc hj h1 h2 h3 h4) (fun hj h1 h2 h3 h4 => step_d22y hDec m ba bc s0 s1 s2 ta tc w hM hp0 hp1 hs0 hs1 hR hTr hT he h0 hpc hj h1 h2 h3 h4)
  · have e1 : stepE m = fetchE m m.pc := by unfold stepE; rw [if_pos he]
    exact (step_none hDec m ba bc s0 s1 s2 ta tc w hM hp0 hp1 hR he).mono fun _ _ ⟨h1, hb⟩ => ⟨hb, Or.inl ⟨by rw [e1]; exact he, by rw [e1]; exact h1⟩⟩

end Go.Proofs.YtabepbaldadmgaaDoor

namespace Go.Proofs.YtabepbaldadmgaaDoor
open Go.RowKit Isa

theorem app1 (base g0 : Nat) (ta : Option Addr) (tc : Nat) (l : List Int) (W : World) (hg : W.heap[g0]? = some (.cells #[] 3 (0, 0))) (hb : base ≤ g0) (hT : TRd W ta l) (hl : l.length ≤ 1000000000) :
    ∃ v1 W1, (∀ ty, (Builtin.append_ #[27, 27] ty #[.slice (some ⟨g0, 0, none⟩) 0 0, .slice ta l.length tc]).run Tryd.prog W = .ok v1 W1) ∧ W1.ownsRow base 3 1 v1 l.length (icells l) ∧ W.grownBy W1 (some g0) := by
  obtain ⟨i, hi, hz0, hz1, hz2⟩ := info_parts infoI
  have own : W.ownsRow base 3 1 (.slice (some ⟨g0, 0, none⟩) 0 0) 0 [] := ⟨by simp, .inr ⟨g0, 0, #[], rfl, hb, hg, Nat.zero_le _, by unfold maxLen; omega, by simp, by simp⟩⟩
  have hbz : base ≤ W.heap.size := by have := (Array.getElem?_eq_some_iff.1 hg).1; omega
  rcases Nat.eq_zero_or_pos l.length with h0 | h0
  · have e0 : l = [] := List.length_eq_zero_iff.1 h0
    subst e0
    refine ⟨_, W, fun ty => ?_, own, ⟨rfl, rfl, rfl, Nat.le_refl _, fun _ _ _ => rfl⟩⟩
    cases ta with
    | none => exact run_append_nothing W 27 27 ty 3 i Tryd.underlying27 hi _ 0 0 (Nat.le_refl _) _ (Src.ofNil W Tryd.underlying27 tc)
    | some a => exact run_append_nothing W 27 27 ty 3 i Tryd.underlying27 hi _ 0 0 (Nat.le_refl _) _ (Src.ofSlice W Tryd.underlying27 a 0 tc [] (by simp) (by simp) (by simp))
  · obtain ⟨b, off, rfl, hlt, hc⟩ := hT h0
    have key := fun ty => run_append_own (P := Tryd.prog) W base 27 ty 3 i _ 1 8 Tryd.underlying27 hi hz0 hz1 hz2 rfl (by decide) _ 0 [] own ⟨b, off, none⟩ l.length tc (icells l) (icells_len l) (fun j u hj => by
      have hj0 : j < l.length := by
        have := (List.getElem?_eq_some_iff.1 hj).1
        rw [icells_len] at this
        omega
      rw [addr_add, hc j hj0]
      rw [← hj]
      simp [icells, hj0]) (icells_one l) (by unfold maxLen; omega) (by omega) hbz
    obtain ⟨v', W', hrun, hown, hgr, _⟩ := key 0
    rw [Nat.zero_add, List.nil_append] at hown
    exact ⟨v', W', fun ty => hrun, hown, hgr⟩
theorem app2 (base : Nat) (v1 : Value) (l : List Int) (W : World) (h : W.ownsRow base 3 1 v1 l.length (icells l)) (b : Nat) (x : Int) (hb : W.heap[b]? = some (.cells #[.int .i64 x] 3 (0, 0))) (hl : l.length ≤ 1000000000) (hbz : base ≤ W.heap.size) :
    ∃ a2 c2 W2, (∀ ty, (Builtin.append_ #[27, 27] ty #[v1, .slice (some ⟨b, 0, none⟩) 1 1]).run Tryd.prog W = .ok (.slice a2 (l.length + 1) c2) W2) ∧ W2.ownsRow base 3 1 (.slice a2 (l.length + 1) c2) (l.length + 1) (icells (l ++ [x])) ∧ W.grownBy W2 v1.ownBlock := by
  obtain ⟨i, hi, hz0, hz1, hz2⟩ := info_parts infoI
  obtain ⟨v', W', hrun, hown, hgr, _⟩ := run_append_own (P := Tryd.prog) W base 27 0 3 i _ 1 8 Tryd.underlying27 hi hz0 hz1 hz2 rfl (by decide) v1 l.length (icells l) h ⟨b, 0, none⟩ 1 1 [.int .i64 x] rfl (fun j u hj => by
    have hj0 : j = 0 := by
      have := (List.getElem?_eq_some_iff.1 hj).1
      simpa using this
    subst hj0
    rw [addr_add]
    refine cell_of_block (i := 0) hb ?_
    simpa using hj) (by simp [Value.oneCell']) (by unfold maxLen; omega) (by omega) hbz
  obtain ⟨ta', tc', rfl⟩ := row_form hown
  exact ⟨ta', tc', W', fun ty => hrun, by simpa [icells] using hown, hgr⟩
/-- The row is read as told. -/
theorem own_trd {base : Nat} {a : Option Addr} {c : Nat} {l : List Int} {W : World} (h : W.ownsRow base 3 1 (.slice a l.length c) l.length (icells l)) (h0 : 0 < l.length) : ∃ g, a = some ⟨g, 0, none⟩ ∧ base ≤ g ∧ g < W.heap.size ∧ TRd W a l := by
  rcases h.2 with ⟨_, e⟩ | ⟨g, cap, cur, e, hg, hh, hn, hm, hs, ht⟩
  · omega
  · injection e with e1 e2 e3
    subst e1
    have hlt := (Array.getElem?_eq_some_iff.1 hh).1
    refine ⟨g, rfl, hg, hlt, fun _ => ⟨g, 0, rfl, hlt, fun i hi => ?_⟩⟩
    refine cell_of_block (i := 0 + i) hh ?_
    have ht' : (cur.toList.take (l.length * 1))[i]? = (icells l)[i]? := congrArg (fun q => q[i]?) ht
    rw [List.getElem?_take_of_lt (by omega)] at ht'
    rw [Nat.zero_add, ← Array.getElem?_toList, ht']
    simp [icells, hi]

end Go.Proofs.YtabepbaldadmgaaDoor
