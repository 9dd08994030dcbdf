/- What the program's own Parse tells, as a function of lists: it is the object of the bytes. -/
import Derived.Test.YtobdcnpifbnjaacOcListR
namespace Go.Proofs.Ytobdcnpifbnjaac
open Go.RowKit

/-- What is read, one behind the other, behind the mark. -/
structure Steps where
  a2 : Nat × List UInt8 × Bool
  a3 : List UInt8 × List UInt8 × Bool
  a5 : List Sy × List UInt8 × Bool
  a7 : List Re × List UInt8 × Bool
def steps (l : List UInt8) : Steps :=
  let a2 := dN 4 l false
  let a3 := dT a2.1 a2.2.1 a2.2.2
  let a4 := dN 4 a3.2.1 a3.2.2
  let a5 := dMany dSym a4.1 a4.2.1 a4.2.2
  let a6 := dN 4 a5.2.1 a5.2.2
  let a7 := dMany dRel a6.1 a6.2.1 a6.2.2
  ⟨a2, a3, a5, a7⟩

def readAll (l : List UInt8) : Option Ob := if (steps l).a7.2.2 = true ∨ (steps l).a7.2.1 ≠ [] then none else some ⟨(steps l).a3.1, (steps l).a5.1, (steps l).a7.1⟩

theorem readO_mark (l : List UInt8) : readO l = if (dT 3 l false).1 = [79, 66, 74] then readAll (l.drop 3) else none := by
  unfold readO
  rw [dT_rd, got_bind]
  by_cases h3 : 3 ≤ l.length
  · have e : dT 3 l false = (l.take 3, l.drop 3, false) := by unfold dT; rw [if_pos h3]
    rw [e]
    simp only [Bool.false_eq_true, if_false]
    by_cases hm : l.take 3 = [79, 66, 74]
    · rw [if_pos hm, if_pos hm]
      unfold readAll steps
      simp only
      rw [dN_rd, got_bind]
      generalize dN 4 (l.drop 3) false = a2
      obtain ⟨n2, l2, s2⟩ := a2
      cases s2
      · simp only [Bool.false_eq_true, if_false, dT_rd, got_bind]
        generalize dT n2 l2 false = a3
        obtain ⟨t3, l3, s3⟩ := a3
        cases s3
        · simp only [Bool.false_eq_true, if_false, dN_rd, got_bind]
          generalize dN 4 l3 false = a4
          obtain ⟨n4, l4, s4⟩ := a4
          cases s4
          · simp only [Bool.false_eq_true, if_false, dMany_rd dSym_rd, got_bind]
            generalize dMany dSym n4 l4 false = a5
            obtain ⟨t5, l5, s5⟩ := a5
            cases s5
            · simp only [Bool.false_eq_true, if_false]
              generalize dN 4 l5 false = a6
              obtain ⟨n6, l6, s6⟩ := a6
              cases s6
              · simp only [Bool.false_eq_true, if_false, dMany_rd dRel_rd, got_bind]
                generalize dMany dRel n6 l6 false = a7
                obtain ⟨t7, l7, s7⟩ := a7
                cases s7
                · simp only [Bool.false_eq_true, if_false, false_or]
                  by_cases h7 : l7 = []
                  · simp [h7]
                  · simp [h7]
                · simp
              · simp [dMany_true]
            · simp [dN_true, dMany_true]
          · simp [dN_true, dMany_true]
        · simp [dN_true, dMany_true]
      · simp [dT_true, dN_true, dMany_true]
    · rw [if_neg hm, if_neg hm]
  · have e : dT 3 l false = ([], l, true) := by unfold dT; rw [if_neg h3]
    rw [e]
    simp

theorem wrong_take {nm : List UInt8 → Bool} (c : List UInt8) (xs : List Sy) (rs : List Re) : wrongO nm ⟨c, xs.take 256, rs.take 16001⟩ = wrongO nm ⟨c, xs, rs⟩ := by
  unfold wrongO
  simp only [List.length_take]
  by_cases h : 8000 < c.length ∨ 255 < xs.length ∨ 16000 < rs.length
  · rw [if_pos h, if_pos (by omega)]
  · rw [if_neg h, if_neg (by omega), List.take_of_length_le (by omega), List.take_of_length_le (by omega)]
theorem wrong_few {nm : List UInt8 → Bool} {o : Ob} (h : wrongO nm o = 0) : o.code.length ≤ 8000 ∧ o.syms.length ≤ 255 ∧ o.rels.length ≤ 16000 := by
  unfold wrongO at h
  split at h
  · cases h
  · omega

end Go.Proofs.Ytobdcnpifbnjaac
