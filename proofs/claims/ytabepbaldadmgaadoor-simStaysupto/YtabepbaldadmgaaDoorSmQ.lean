/- What a step of a machine is: the mathematics. -/
import Derived.Test.YtabepbaldadmgaaDoorSmI
namespace Go.Proofs.YtabepbaldadmgaaDoor
open Go.RowKit Isa

theorem fetch_in {m : Ma} {a : Int} (hb : 0 ≤ m.base) (h : fetchE m a = 0) : 0 ≤ a ∧ 1 ≤ fV m a 0 ∧ fV m a 0 ≤ 27 := by
  unfold fetchE at h
  by_cases hh : hasB m a 2 = true
  · rw [if_pos hh] at h
    have h1 := hasB_in hh
    obtain ⟨op, n, mm, imm, hd, hw, _⟩ := turn2 h
    have h2 := wrongI_zero hw
    have e0 : dV (wordS m a) 0 = op := by unfold dV; rw [hd]; rfl
    unfold fV
    rw [if_pos hh, e0]
    omega
  · rw [if_neg hh] at h
    exact absurd h (by decide)

/-- The machine that the next one is done in, where something leads elsewhere. -/
def preM (m : Ma) : Ma := if fV m m.pc 0 = 20 ∨ fV m m.pc 0 = 22 then { m with st := m.st + 1, pr := m.pc + 4 } else { m with st := m.st + 1 }
/-- Where it leads. -/
def destM (m : Ma) : Int := if fV m m.pc 0 = 2 then m.pr else if fV m m.pc 0 = 21 ∨ fV m m.pc 0 = 22 then m.r (fV m m.pc 1).toNat else toI (fV m m.pc 0) (fV m m.pc 3) m.pc
def stepE (m : Ma) : Int :=
  if fetchE m m.pc ≠ 0 then fetchE m m.pc
  else if fV m m.pc 0 = 27 ∧ fV m m.pc 3 = 0 then 0
  else if leadsB (fV m m.pc 0) = false then plainE { m with st := m.st + 1 } (fV m m.pc 0) (fV m m.pc 1) (fV m m.pc 2) (fV m m.pc 3) m.pc
  else if fV m m.pc 0 = 17 ∨ fV m m.pc 0 = 18 then 0
  else if fetchE (preM m) (m.pc + 2) ≠ 0 then fetchE (preM m) (m.pc + 2)
  else if leadsB (fV (preM m) (m.pc + 2) 0) = true ∨ fV (preM m) (m.pc + 2) 0 = 27 then 8
  else plainE (preM m) (fV (preM m) (m.pc + 2) 0) (fV (preM m) (m.pc + 2) 1) (fV (preM m) (m.pc + 2) 2) (fV (preM m) (m.pc + 2) 3) (m.pc + 2)
def stepD (m : Ma) : Bool := decide (fetchE m m.pc = 0 ∧ fV m m.pc 0 = 27 ∧ fV m m.pc 3 = 0)
def stepM (m : Ma) : Ma :=
  if fV m m.pc 0 = 27 ∧ fV m m.pc 3 = 0 then { m with st := m.st + 1 }
  else if leadsB (fV m m.pc 0) = false then { plainM { m with st := m.st + 1 } (fV m m.pc 0) (fV m m.pc 1) (fV m m.pc 2) (fV m m.pc 3) m.pc with pc := m.pc + 2 }
  else if fV m m.pc 0 = 17 ∨ fV m m.pc 0 = 18 then { m with st := m.st + 1, pc := if m.t = decide (fV m m.pc 0 = 17) then toI (fV m m.pc 0) (fV m m.pc 3) m.pc else m.pc + 2 }
  else { plainM (preM m) (fV (preM m) (m.pc + 2) 0) (fV (preM m) (m.pc + 2) 1) (fV (preM m) (m.pc + 2) 2) (fV (preM m) (m.pc + 2) 3) (m.pc + 2) with pc := destM m }

end Go.Proofs.YtabepbaldadmgaaDoor
