/- The walk of ScanLines, on. -/
import Derived.Test.YtajeijhmlkbjgaaDoorLinesD
namespace Go.Proofs.YtajeijhmlkbjgaaDoor
open Go.RowKit

theorem src_two (al bs : List UInt8) (h : al.length + bs.length + 1 ≤ 1200) :
    (srcErr al ≠ 0 → srcErr (al ++ 10 :: bs) = srcErr al ∧ srcAt (al ++ 10 :: bs) = srcAt al) ∧
    (srcErr al = 0 → srcErr bs ≠ 0 → srcErr (al ++ 10 :: bs) = srcErr bs ∧ srcAt (al ++ 10 :: bs) = srcAt bs + (al.count 10 + 1 : Nat) ∧ 0 < srcAt bs ∧ srcAt bs ≤ 1201) ∧
    (srcErr al = 0 → srcErr bs = 0 → srcErr (al ++ 10 :: bs) = 0 ∧ srcList (al ++ 10 :: bs) = srcList al ++ shiftL (al.count 10 + 1) (srcList bs) ∧ (srcList bs).length ≤ 1201 ∧ ∀ l, l ∈ srcList bs → 1 ≤ l.pos ∧ l.pos ≤ 1201) := by
  have ha : srcLines al = linesR 1 (splitNL al) := src_few (by omega) rfl
  have hb : srcLines bs = linesR 1 (splitNL bs) := src_few (by omega) rfl
  have hlb : (splitNL bs).length ≤ 1201 := by rw [splitNL_len]; have : bs.count 10 ≤ bs.length := List.count_le_length; omega
  have hc : srcLines (al ++ 10 :: bs) = linesR 1 (splitNL al ++ splitNL bs) := by rw [← splitNL_app]; exact src_few (by simp; omega) rfl
  rw [linesR_app, show 1 + (splitNL al).length = 1 + (al.count 10 + 1) by rw [splitNL_len], linesR_shift (al.count 10 + 1) (splitNL bs) 1] at hc
  cases hA : linesR 1 (splitNL al) with
  | error e =>
    obtain ⟨e1, e2⟩ := e
    rw [hA] at ha hc
    obtain ⟨a1, a2, a3⟩ := src_no ha
    obtain ⟨c1, c2, c3⟩ := src_no hc
    have hne := (linesR_bad _ _ _ _ hA).1
    exact ⟨fun _ => ⟨by rw [c1, a1], by rw [c2, a2]⟩, fun h0 => absurd (a1 ▸ h0) hne, fun h0 => absurd (a1 ▸ h0) hne⟩
  | ok xs =>
    rw [hA] at ha hc
    obtain ⟨a1, a2, a3⟩ := src_ok ha
    refine ⟨fun h0 => absurd a1 h0, ?_, ?_⟩
    · intro _ hbe
      cases hB : linesR 1 (splitNL bs) with
      | error e =>
        obtain ⟨e1, e2⟩ := e
        rw [hB] at hb hc
        obtain ⟨b1, b2, b3⟩ := src_no hb
        obtain ⟨c1, c2, c3⟩ := src_no hc
        obtain ⟨_, q1, q2⟩ := linesR_bad _ _ _ _ hB
        exact ⟨by rw [c1, b1], by rw [c2, b2], by rw [b2]; omega, by rw [b2]; omega⟩
      | ok ys =>
        rw [hB] at hb
        exact absurd (src_ok hb).1 hbe
    · intro _ hbe
      cases hB : linesR 1 (splitNL bs) with
      | error e =>
        obtain ⟨e1, e2⟩ := e
        rw [hB] at hb
        have hne := (linesR_bad _ _ _ _ hB).1
        exact absurd ((src_no hb).1 ▸ hbe) hne
      | ok ys =>
        rw [hB] at hb hc
        obtain ⟨b1, b2, b3⟩ := src_ok hb
        obtain ⟨c1, c2, c3⟩ := src_ok hc
        obtain ⟨p1, p2⟩ := linesR_pos _ _ _ hB
        refine ⟨c1, by rw [c3, a3, b3], by rw [b3]; omega, fun l hl => ?_⟩
        rw [b3] at hl
        have := p2 l hl
        omega

theorem reads_of_row {w : World} {base : Nat} {v : Value} {ps : List (Ln × Value)} (hr : w.ownsRow base 64 2 v ps.length (lcells ps)) (ht : ∀ p, p ∈ ps → TReads w p.2 p.1.toks) : LReads w v (ps.map (·.1)) := by
  have hl : (ps.map (·.1)).length = ps.length := by simp
  rcases hr.2 with ⟨rfl, hn⟩ | ⟨g, cap, cur, rfl, _, hg, hle, hm, _⟩
  · exact ⟨none, 0, by rw [hl, hn], by rw [hl, hn]; exact Nat.zero_le _, fun h0 => by omega⟩
  · refine ⟨_, cap, by rw [hl], by rw [hl]; exact Nat.le_trans hle hm, fun _ => ⟨g, 0, rfl, (Array.getElem?_eq_some_iff.1 hg).1, fun i hi => ?_⟩⟩
    rw [hl] at hi
    have ha := lcells_at ps i hi
    have hadd : ∀ j, (⟨g, 0, none⟩ : Addr).add j = ⟨g, 0 + j, none⟩ := fun j => by unfold Addr.add; split <;> simp_all
    have x0 := hr.cells rfl _ _ ha.1
    have x1 := hr.cells rfl _ _ ha.2
    rw [hadd] at x0 x1
    have e : (ps.map (·.1))[i] = ps[i].1 := by simp
    rw [e]
    exact ⟨x0, ps[i].2, x1, ht ps[i] (List.getElem_mem hi)⟩

def shiftP (d : Nat) (ps : List (Ln × Value)) : List (Ln × Value) := ps.map fun p => (⟨p.1.pos + d, p.1.toks⟩, p.2)
theorem shiftP_fst (d : Nat) (ps : List (Ln × Value)) : (shiftP d ps).map (·.1) = shiftL d (ps.map (·.1)) := by simp [shiftP, shiftL]
theorem lcells_append (a b : List (Ln × Value)) : lcells (a ++ b) = lcells a ++ lcells b := by simp [lcells]
theorem lcells_length (ps : List (Ln × Value)) : (lcells ps).length = ps.length * 2 := by
  induction ps with
  | nil => rfl
  | cons p r ih => simp [lcells] at ih ⊢; omega
theorem lcells_one {w : World} {base : Nat} {v : Value} {ps : List (Ln × Value)} (h : LOwn w base v ps) : ∀ u ∈ lcells ps, u.oneCell' = true := by
  intro u hu
  simp only [lcells, List.mem_flatMap, List.mem_cons, List.not_mem_nil, or_false] at hu
  obtain ⟨p, hp, rfl | rfl⟩ := hu
  · rfl
  · rcases (h.toks p hp).2 with ⟨e, _⟩ | ⟨g, cap, cur, e, _⟩ <;> (rw [e]; rfl)

theorem lown_form {w : World} {base : Nat} {v : Value} {ps : List (Ln × Value)} (h : LOwn w base v ps) : ∃ ad cap, v = .slice ad ps.length cap ∧ ps.length ≤ maxLen ∧ (ad = none → ps.length = 0) ∧ (0 < ps.length → ∃ g, ad = some ⟨g, 0, none⟩ ∧ g < w.heap.size ∧ (∀ j u, (lcells ps)[j]? = some u → w.cell? ((⟨g, 0, none⟩ : Addr).add j) = some u)) := by
  rcases h.row.2 with ⟨rfl, hn⟩ | ⟨g, cap, cur, rfl, _, hg, hle, hm, _⟩
  · exact ⟨none, 0, by rw [hn], by rw [hn]; exact Nat.zero_le _, fun _ => hn, fun h0 => by omega⟩
  · exact ⟨_, cap, rfl, Nat.le_trans hle hm, fun e => (by cases e), fun _ => ⟨g, rfl, (Array.getElem?_eq_some_iff.1 hg).1, h.row.cells rfl⟩⟩

end Go.Proofs.YtajeijhmlkbjgaaDoor
