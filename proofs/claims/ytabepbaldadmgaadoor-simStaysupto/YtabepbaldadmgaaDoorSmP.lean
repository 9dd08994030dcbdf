/- What stays while a machine runs: the mathematics. -/
import Derived.Test.YtabepbaldadmgaaDoorSmQ
namespace Go.Proofs.YtabepbaldadmgaaDoor
open Go.RowKit Isa

def in32 (x : Int) : Prop := -2147483648 ≤ x ∧ x ≤ 2147483647
def Kp (m m' : Ma) : Prop := m'.base = m.base ∧ m'.by'.length = m.by'.length ∧ m'.pc = m.pc ∧ m'.pr = m.pr ∧ m'.st = m.st
theorem kp_ite {m a b : Ma} {c : Prop} [Decidable c] (ha : Kp m a) (hb : Kp m b) : Kp m (if c then a else b) := by
  by_cases h : c
  · rw [if_pos h]; exact ha
  · rw [if_neg h]; exact hb
theorem plain_keep (m : Ma) (op n mm imm at' : Int) : Kp m (plainM m op n mm imm at') := by
  unfold plainM
  repeat' refine kp_ite ?_ ?_
  all_goals first | exact ⟨rfl, rfl, rfl, rfl, rfl⟩ | exact ⟨rfl, putS_len _ _ _, rfl, rfl, rfl⟩
theorem setR_in {m : Ma} (h : ∀ k, in32 (m.r k)) (n : Nat) {v : Int} (hv : in32 v) : ∀ k, in32 ((setR m n v).r k) := fun k => by
  unfold setR
  dsimp only
  split
  · exact hv
  · exact h k
theorem loadS_in (m : Ma) (a size : Int) : in32 (loadS m a size) := by
  unfold loadS
  split
  · exact w32_bd _
  · exact w32_bd _
def Rg (m : Ma) : Prop := ∀ k, in32 (m.r k)
theorem rg_ite {a b : Ma} {c : Prop} [Decidable c] (ha : Rg a) (hb : Rg b) : Rg (if c then a else b) := by
  by_cases h : c
  · rw [if_pos h]; exact ha
  · rw [if_neg h]; exact hb
theorem plain_in {m : Ma} (h : ∀ k, in32 (m.r k)) (op n mm imm at' : Int) (hi0 : -10000 ≤ imm) (hi1 : imm ≤ 10000) : ∀ k, in32 ((plainM m op n mm imm at').r k) := by
  have hb : in32 (a32 m mm) := w32_bd _
  have hA : in32 (a32 m n) := w32_bd _
  have hI : in32 imm := ⟨by omega, by omega⟩
  have hH : in32 (a32 m n % 4294967296 / 2) := by unfold in32; omega
  show Rg (plainM m op n mm imm at')
  unfold plainM
  repeat' refine rg_ite ?_ ?_
  all_goals first
    | exact h
    | exact setR_in h _ hI
    | exact setR_in h _ (w32_bd _)
    | exact setR_in h _ hb
    | exact setR_in h _ (bits32 _ _ _ (by simp))
    | exact setR_in h _ (loadS_in _ _ _)
    | exact setR_in (m := { m with t := _ }) h _ (w32_bd _)
    | exact setR_in (m := { m with t := _ }) h _ hH

/-- What a machine keeps while it runs: k: how many steps it has made. -/
structure Runs (m : Ma) (k : Nat) : Prop where
  b0 : 0 ≤ m.base
  b1 : m.base ≤ 1048576
  bl : m.by'.length ≤ 1048576
  tl : m.told.length ≤ 1048576 + k
  reg : ∀ k, in32 (m.r k)
  pc : in32 m.pc
  pr : in32 m.pr
  st0 : 0 ≤ m.st
  st1 : m.st ≤ 1000000 + k
theorem Runs.mok {m : Ma} {k : Nat} (h : Runs m k) (hk : k ≤ 100000) : MOk m := ⟨h.b0, h.b1, by have := h.bl; omega, by have := h.tl; omega⟩

theorem toI_near (op imm at' : Int) (h0 : 0 ≤ at') (h2 : -10000 ≤ imm) (h3 : imm ≤ 10000) : -50000 ≤ toI op imm at' ∧ toI op imm at' ≤ at' + 50000 := by
  unfold toI
  split
  · omega
  · split <;> omega
theorem told_ite {k : Nat} {a b : Ma} {c : Prop} [Decidable c] (ha : a.told.length ≤ k) (hb : b.told.length ≤ k) : (if c then a else b).told.length ≤ k := by
  by_cases h : c
  · rw [if_pos h]; exact ha
  · rw [if_neg h]; exact hb
theorem plain_told (m : Ma) (op n mm imm at' : Int) : (plainM m op n mm imm at').told.length ≤ m.told.length + 1 := by
  unfold plainM
  repeat' refine told_ite ?_ ?_
  all_goals first | exact Nat.le_succ _ | (simp; done)
theorem runs_plain {m : Ma} {k : Nat} (h : Runs m k) (op n mm imm at' : Int) (hi0 : -10000 ≤ imm) (hi1 : imm ≤ 10000) : Runs (plainM m op n mm imm at') (k + 1) := by
  obtain ⟨e1, e2, e3, e4, e5⟩ := plain_keep m op n mm imm at'
  have ht := plain_told m op n mm imm at'
  have ht2 := h.tl
  have hs := h.st1
  exact ⟨by rw [e1]; exact h.b0, by rw [e1]; exact h.b1, by rw [e2]; exact h.bl, by omega, plain_in h.reg op n mm imm at' hi0 hi1, by rw [e3]; exact h.pc, by rw [e4]; exact h.pr, by rw [e5]; exact h.st0, by rw [e5]; omega⟩
/-- Where an instruction is: not far. -/
theorem fetch_near {m : Ma} {a : Int} {k : Nat} (h : Runs m k) (he : fetchE m a = 0) : 0 ≤ a ∧ a ≤ 2097152 := by
  have hl := h.bl
  have hb := h.b0
  have hb1 := h.b1
  unfold fetchE at he
  by_cases hh : hasB m a 2 = true
  · have h1 := hasB_in hh
    omega
  · rw [if_neg hh] at he
    exact absurd he (by decide)
theorem runs_pre {m : Ma} {k : Nat} (h : Runs m k) (he : fetchE m m.pc = 0) : Runs (preM m) (k + 1) ∧ (preM m).st = m.st + 1 := by
  have hpc := fetch_near h he
  have ht := h.tl
  have hs := h.st1
  have hs0 := h.st0
  unfold preM
  split
  · exact ⟨⟨h.b0, h.b1, h.bl, by show m.told.length ≤ _; omega, h.reg, h.pc, by show in32 (m.pc + 4); unfold in32; omega, by show 0 ≤ m.st + 1; omega, by show m.st + 1 ≤ _; omega⟩, rfl⟩
  · exact ⟨⟨h.b0, h.b1, h.bl, by show m.told.length ≤ _; omega, h.reg, h.pc, h.pr, by show 0 ≤ m.st + 1; omega, by show m.st + 1 ≤ _; omega⟩, rfl⟩
theorem dest_in {m : Ma} {k : Nat} (h : Runs m k) (he : fetchE m m.pc = 0) : in32 (destM m) := by
  have hpc := fetch_near h he
  obtain ⟨b1, b2, b3, b4, b5, b6⟩ := fV_bd m m.pc
  have ht := toI_near (fV m m.pc 0) (fV m m.pc 3) m.pc hpc.1 b5 b6
  unfold destM
  split
  · exact h.pr
  · split
    · exact h.reg _
    · unfold in32; omega
theorem runs_step {m : Ma} {k : Nat} (h : Runs m k) (he : fetchE m m.pc = 0) : Runs (stepM m) (k + 1) ∧ (stepM m).st = m.st + 1 := by
  have hpc := fetch_near h he
  obtain ⟨b1, b2, b3, b4, b5, b6⟩ := fV_bd m m.pc
  have hst := h.st0
  have hst1 := h.st1
  have htl := h.tl
  have ht := toI_near (fV m m.pc 0) (fV m m.pc 3) m.pc hpc.1 b5 b6
  have hd := dest_in h he
  obtain ⟨j1, j2, j3, j4, j5, j6⟩ := fV_bd (preM m) (m.pc + 2)
  have key : ∀ {M : Ma} (op n mm imm at' p : Int), M.base = m.base → M.by' = m.by' → M.told = m.told → M.r = m.r → in32 M.pr → M.st = m.st + 1 → -10000 ≤ imm → imm ≤ 10000 → in32 p → Runs { plainM M op n mm imm at' with pc := p } (k + 1) ∧ (plainM M op n mm imm at').st = m.st + 1 := by
    intro M op n mm imm at' p q1 q2 q3 q4 q5 q6 i0 i1 hp
    obtain ⟨e1, e2, e3, e4, e5⟩ := plain_keep M op n mm imm at'
    have t1 := plain_told M op n mm imm at'
    rw [q3] at t1
    refine ⟨⟨by show 0 ≤ (plainM M op n mm imm at').base; rw [e1, q1]; exact h.b0, by show (plainM M op n mm imm at').base ≤ _; rw [e1, q1]; exact h.b1, by show (plainM M op n mm imm at').by'.length ≤ _; rw [e2, q2]; exact h.bl, by show (plainM M op n mm imm at').told.length ≤ _; omega, plain_in (by rw [q4]; exact h.reg) op n mm imm at' i0 i1, hp, by show in32 (plainM M op n mm imm at').pr; rw [e4]; exact q5, by show 0 ≤ (plainM M op n mm imm at').st; rw [e5, q6]; omega, by show (plainM M op n mm imm at').st ≤ _; rw [e5, q6]; omega⟩, by rw [e5, q6]⟩
  have pp : (preM m).base = m.base ∧ (preM m).by' = m.by' ∧ (preM m).told = m.told ∧ (preM m).r = m.r := by
    unfold preM
    split <;> exact ⟨rfl, rfl, rfl, rfl⟩
  have hpre := runs_pre h he
  unfold stepM
  split
  · exact ⟨⟨h.b0, h.b1, h.bl, by show m.told.length ≤ _; omega, h.reg, h.pc, h.pr, by show 0 ≤ m.st + 1; omega, by show m.st + 1 ≤ _; omega⟩, rfl⟩
  · split
    · exact key (M := { m with st := m.st + 1 }) (fV m m.pc 0) (fV m m.pc 1) (fV m m.pc 2) (fV m m.pc 3) m.pc (m.pc + 2) rfl rfl rfl rfl h.pr rfl b5 b6 (by unfold in32; omega)
    · split
      · refine ⟨⟨h.b0, h.b1, h.bl, by show m.told.length ≤ _; omega, h.reg, ?_, h.pr, by show 0 ≤ m.st + 1; omega, by show m.st + 1 ≤ _; omega⟩, rfl⟩
        dsimp only
        unfold in32
        split <;> omega
      · exact key (M := preM m) (fV (preM m) (m.pc + 2) 0) (fV (preM m) (m.pc + 2) 1) (fV (preM m) (m.pc + 2) 2) (fV (preM m) (m.pc + 2) 3) (m.pc + 2) (destM m) pp.1 pp.2.1 pp.2.2.1 pp.2.2.2 hpre.1.pr hpre.2 j5 j6 hd

end Go.Proofs.YtabepbaldadmgaaDoor
