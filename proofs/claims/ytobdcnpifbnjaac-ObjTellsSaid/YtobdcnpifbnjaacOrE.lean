/- What the document's own reader tells, as functions of lists. -/
import Derived.Test.YtobdcnpifbnjaacOrT
import Derived.Test.YtobdcnpifbnjaacOcPa
namespace Go.Proofs.Ytobdcnpifbnjaac
open Go.RowKit

def eT (n : Nat) (l : List UInt8) (s : Bool) : List UInt8 × List UInt8 × Bool := if s = true ∨ l.length < n then ([], l, true) else (l.take n, l.drop n, false)
def eN (k : Nat) (l : List UInt8) (s : Bool) : Nat × List UInt8 × Bool := if s = true ∨ l.length < k then (0, l, true) else (beNum (l.take k), l.drop k, false)
def eName (l : List UInt8) (s : Bool) : List UInt8 × List UInt8 × Bool := eT (eN 1 l s).1 (eN 1 l s).2.1 (eN 1 l s).2.2
def eSym (l : List UInt8) (s : Bool) : Sy × List UInt8 × Bool :=
  (⟨(eName l s).1, (eN 4 (eName l s).2.1 (eName l s).2.2).1⟩, (eN 4 (eName l s).2.1 (eName l s).2.2).2)
def eRel (l : List UInt8) (s : Bool) : Re × List UInt8 × Bool :=
  let a := eN 4 l s
  let b := eN 1 a.2.1 a.2.2
  let c := eName b.2.1 b.2.2
  let d := eN 4 c.2.1 c.2.2
  (⟨a.1, b.1, c.1, wrap32 d.1⟩, d.2)

theorem eT_ok {n : Nat} {l : List UInt8} (h : n ≤ l.length) : eT n l false = (l.take n, l.drop n, false) := by
  unfold eT
  rw [if_neg (by rintro (h1 | h1); cases h1; omega)]
theorem eT_no {n : Nat} {l : List UInt8} (h : ¬ n ≤ l.length) : eT n l false = ([], l, true) := by
  unfold eT
  rw [if_pos (.inr (by omega))]
theorem eN_ok {n : Nat} {l : List UInt8} (h : n ≤ l.length) : eN n l false = (beNum (l.take n), l.drop n, false) := by
  unfold eN
  rw [if_neg (by rintro (h1 | h1); cases h1; omega)]
theorem eN_no {n : Nat} {l : List UInt8} (h : ¬ n ≤ l.length) : eN n l false = (0, l, true) := by
  unfold eN
  rw [if_pos (.inr (by omega))]
theorem eT_rd (n : Nat) (l : List UInt8) : rdT n l = got (eT n l false) := by
  by_cases h : n ≤ l.length
  · rw [eT_ok h]; unfold rdT got; rw [if_pos h]; rfl
  · rw [eT_no h]; unfold rdT got; rw [if_neg h]; rfl
theorem eN_rd (k : Nat) (l : List UInt8) : rdN k l = got (eN k l false) := by
  by_cases h : k ≤ l.length
  · rw [eN_ok h]; unfold rdN got; rw [if_pos h]; rfl
  · rw [eN_no h]; unfold rdN got; rw [if_neg h]; rfl
theorem eT_true (n : Nat) (l : List UInt8) : (eT n l true).2.2 = true := by simp [eT]
theorem eN_true (n : Nat) (l : List UInt8) : (eN n l true).2.2 = true := by simp [eN]
theorem eName_true (l : List UInt8) : (eName l true).2.2 = true := by unfold eName; rw [eN_true]; exact eT_true _ _
theorem eSym_true (l : List UInt8) : (eSym l true).2.2 = true := by unfold eSym; simp only [eName_true]; exact eN_true _ _
theorem eRel_true (l : List UInt8) : (eRel l true).2.2 = true := by unfold eRel; simp only [eN_true, eName_true]
theorem eSym_rd (l : List UInt8) : rdSym l = got (eSym l false) := by
  unfold rdSym
  rw [eN_rd, got_bind]
  cases h1 : (eN 1 l false).2.2
  · simp only [Bool.false_eq_true, if_false, eT_rd, got_bind]
    have e : eName l false = eT (eN 1 l false).1 (eN 1 l false).2.1 false := by unfold eName; rw [h1]
    rw [← e]
    cases h2 : (eName l false).2.2
    · simp only [Bool.false_eq_true, if_false, eN_rd, got_bind]
      unfold got eSym
      simp only [h2]
    · simp only [if_true]
      unfold got eSym
      simp only [h2, eN_true, if_true]
  · simp only [if_true]
    have h2 : (eName l false).2.2 = true := by unfold eName; rw [h1]; exact eT_true _ _
    unfold got eSym
    simp only [h2, eN_true, if_true]

theorem eRel_rd (l : List UInt8) : rdRel l = got (eRel l false) := by
  unfold rdRel
  rw [eN_rd, got_bind]
  cases h1 : (eN 4 l false).2.2
  · simp only [Bool.false_eq_true, if_false, eN_rd, got_bind]
    cases h2 : (eN 1 (eN 4 l false).2.1 false).2.2
    · simp only [Bool.false_eq_true, if_false]
      cases h3 : (eN 1 (eN 1 (eN 4 l false).2.1 false).2.1 false).2.2
      · simp only [Bool.false_eq_true, if_false, eT_rd, got_bind]
        have e : eName (eN 1 (eN 4 l false).2.1 false).2.1 false = eT (eN 1 (eN 1 (eN 4 l false).2.1 false).2.1 false).1 (eN 1 (eN 1 (eN 4 l false).2.1 false).2.1 false).2.1 false := by unfold eName; rw [h3]
        rw [← e]
        cases h4 : (eName (eN 1 (eN 4 l false).2.1 false).2.1 false).2.2
        · simp only [Bool.false_eq_true, if_false]
          unfold got eRel
          simp only [h1, h2, h4]
        · simp only [if_true]
          unfold got eRel
          simp only [h1, h2, h4, eN_true, if_true]
      · simp only [if_true]
        have h4 : (eName (eN 1 (eN 4 l false).2.1 false).2.1 false).2.2 = true := by unfold eName; rw [h3]; exact eT_true _ _
        unfold got eRel
        simp only [h1, h2, h4, eN_true, if_true]
    · simp only [if_true]
      unfold got eRel
      simp only [h1, h2, eName_true, eN_true, if_true]
  · simp only [if_true]
    unfold got eRel
    simp only [h1, eName_true, eN_true, if_true]

theorem eN_lt4 (l : List UInt8) (s : Bool) : (eN 4 l s).1 < 4294967296 := by
  unfold eN
  split
  · show 0 < 4294967296
    decide
  · have := beNum_lt (l.take 4)
    rw [show (l.take 4).length = 4 by simp; omega] at this
    simpa using this
theorem eN_lt1 (l : List UInt8) (s : Bool) : (eN 1 l s).1 < 256 := by
  unfold eN
  split
  · show 0 < 256
    decide
  · have := beNum_lt (l.take 1)
    rw [show (l.take 1).length = 1 by simp; omega] at this
    simpa using this

def esteps (l : List UInt8) : Steps :=
  let a2 := eN 4 l false
  let a3 := eT a2.1 a2.2.1 a2.2.2
  let a4 := eN 4 a3.2.1 a3.2.2
  let a5 := dMany eSym a4.1 a4.2.1 a4.2.2
  let a6 := eN 4 a5.2.1 a5.2.2
  let a7 := dMany eRel a6.1 a6.2.1 a6.2.2
  ⟨a2, a3, a5, a7⟩

def readAllE (l : List UInt8) : Option Ob := if (esteps l).a7.2.2 = true ∨ (esteps l).a7.2.1 ≠ [] then none else some ⟨(esteps l).a3.1, (esteps l).a5.1, (esteps l).a7.1⟩

theorem readO_markE (l : List UInt8) : readO l = if (eT 3 l false).1 = [79, 66, 74] then readAllE (l.drop 3) else none := by
  unfold readO
  rw [eT_rd, got_bind]
  by_cases h3 : 3 ≤ l.length
  · have e : eT 3 l false = (l.take 3, l.drop 3, false) := eT_ok h3
    rw [e]
    simp only [Bool.false_eq_true, if_false]
    by_cases hm : l.take 3 = [79, 66, 74]
    · rw [if_pos hm, if_pos hm]
      unfold readAllE esteps
      simp only
      rw [eN_rd, got_bind]
      generalize eN 4 (l.drop 3) false = a2
      obtain ⟨n2, l2, s2⟩ := a2
      cases s2
      · simp only [Bool.false_eq_true, if_false, eT_rd, got_bind]
        generalize eT n2 l2 false = a3
        obtain ⟨t3, l3, s3⟩ := a3
        cases s3
        · simp only [Bool.false_eq_true, if_false, eN_rd, got_bind]
          generalize eN 4 l3 false = a4
          obtain ⟨n4, l4, s4⟩ := a4
          cases s4
          · simp only [Bool.false_eq_true, if_false, dMany_rd eSym_rd, got_bind]
            generalize dMany eSym n4 l4 false = a5
            obtain ⟨t5, l5, s5⟩ := a5
            cases s5
            · simp only [Bool.false_eq_true, if_false]
              generalize eN 4 l5 false = a6
              obtain ⟨n6, l6, s6⟩ := a6
              cases s6
              · simp only [Bool.false_eq_true, if_false, dMany_rd eRel_rd, got_bind]
                generalize dMany eRel n6 l6 false = a7
                obtain ⟨t7, l7, s7⟩ := a7
                cases s7
                · simp only [Bool.false_eq_true, if_false, false_or]
                  by_cases h7 : l7 = []
                  · simp [h7]
                  · simp [h7]
                · simp
              · simp [dMany_true]
            · simp [eN_true, dMany_true]
          · simp [eN_true, dMany_true]
        · simp [eN_true, dMany_true]
      · simp [eT_true, eN_true, dMany_true]
    · rw [if_neg hm, if_neg hm]
  · have e : eT 3 l false = ([], l, true) := eT_no h3
    rw [e]
    simp


/-- The reader by what is left. -/
def ER (w : World) (Q : Nat) (l r : List UInt8) (s : Bool) : Prop := ∃ c, RdS w Q l c s ∧ r = l.drop c
theorem ER.below {w w' : World} {Q N : Nat} {l r : List UInt8} {s : Bool} (h : ER w Q l r s) (hb : Below N w w') (hN : Q < N) : ER w' Q l r s := by
  obtain ⟨c, h1, h2⟩ := h
  exact ⟨c, h1.below hb hN, h2⟩
theorem ER.keep {w w' : World} {Q : Nat} {l r : List UInt8} {s : Bool} (h : ER w Q l r s) (hs : w.heap.size ≤ w'.heap.size) (hb : ∀ b, b ≤ Q → w'.heap[b]? = w.heap[b]?) : ER w' Q l r s := by
  obtain ⟨c, h1, h2⟩ := h
  exact ⟨c, h1.keep hs hb, h2⟩
theorem ER.lt {w : World} {Q : Nat} {l r : List UInt8} {s : Bool} (h : ER w Q l r s) : Q < w.heap.size := by
  obtain ⟨c, h1, _⟩ := h
  exact h1.lt

theorem eN_at (l : List UInt8) (c k : Nat) (s : Bool) (hc : c ≤ l.length) : nVal l c k s = ((eN k (l.drop c) s).1 : Int) ∧ l.drop (nAt l c k s) = (eN k (l.drop c) s).2.1 ∧ nBad l c k s = (eN k (l.drop c) s).2.2 := by
  unfold nVal nAt nBad eN
  by_cases h : s = true ∨ l.length < c + k
  · have h2 : s = true ∨ (l.drop c).length < k := by rcases h with h | h; exact .inl h; exact .inr (by simp; omega)
    rw [if_pos h, if_pos h, if_pos h2]
    refine ⟨rfl, rfl, ?_⟩
    rcases h with h | h
    · simp [h]
    · simp [h]
  · have h2 : ¬ (s = true ∨ (l.drop c).length < k) := fun e => h (by rcases e with e | e; exact .inl e; exact .inr (by simp at e; omega))
    rw [if_neg h, if_neg h, if_neg h2]
    refine ⟨rfl, by rw [List.drop_drop], ?_⟩
    simp only [not_or] at h
    simp [h.1, h.2]
theorem eT_at (l : List UInt8) (c k : Nat) (s : Bool) (hc : c ≤ l.length) : tVal l c k s = (eT k (l.drop c) s).1 ∧ l.drop (nAt l c k s) = (eT k (l.drop c) s).2.1 ∧ nBad l c k s = (eT k (l.drop c) s).2.2 := by
  unfold tVal nAt nBad eT
  by_cases h : s = true ∨ l.length < c + k
  · have h2 : s = true ∨ (l.drop c).length < k := by rcases h with h | h; exact .inl h; exact .inr (by simp; omega)
    rw [if_pos h, if_pos h, if_pos h2]
    refine ⟨rfl, rfl, ?_⟩
    rcases h with h | h
    · simp [h]
    · simp [h]
  · have h2 : ¬ (s = true ∨ (l.drop c).length < k) := fun e => h (by rcases e with e | e; exact .inl e; exact .inr (by simp at e; omega))
    rw [if_neg h, if_neg h, if_neg h2]
    refine ⟨rfl, by rw [List.drop_drop], ?_⟩
    simp only [not_or] at h
    simp [h.1, h.2]

theorem eN_any (Q : Nat) (l r : List UInt8) (s : Bool) (k : Nat) (h6 : k ≤ 6) (w : World) (h : ER w Q l r s) :
    Calls Try.prog 29 #[.pointer (some ⟨Q, 0, none⟩), .int .i64 (k : Int)] w fun e w' => e = .returned (.int .i64 ((eN k r s).1 : Int)) ∧ ER w' Q l (eN k r s).2.1 (eN k r s).2.2 ∧ w.grownBy w' (some Q) := by
  obtain ⟨c, h1, rfl⟩ := h
  obtain ⟨e1, e2, e3⟩ := eN_at l c k s h1.le
  refine (rdN_any Q l c k s w h1 h6).mono ?_
  rintro e w' ⟨rfl, h2, h3⟩
  exact ⟨ret_int e1, ⟨_, e3 ▸ h2, e2.symm⟩, h3⟩
theorem eT_any (Q : Nat) (l r : List UInt8) (s : Bool) (n : Nat) (w : World) (h : ER w Q l r s) (hn : n ≤ 4611686018427387904) (hl : l.length ≤ 140737488355328) :
    Calls Try.prog 28 #[.pointer (some ⟨Q, 0, none⟩), .int .i64 (n : Int)] w fun e w' => ∃ v, e = .returned v ∧ Out w' w.heap.size v (eT n r s).1 ∧ ER w' Q l (eT n r s).2.1 (eT n r s).2.2 ∧ w.grownBy w' (some Q) := by
  obtain ⟨c, h1, rfl⟩ := h
  obtain ⟨e1, e2, e3⟩ := eT_at l c n s h1.le
  refine (rdT_any Q l c n s w h1 hn hl).mono ?_
  rintro e w' ⟨v, rfl, h2, h3, h4⟩
  exact ⟨v, rfl, e1 ▸ h2, ⟨_, e3 ▸ h3, e2.symm⟩, h4⟩

end Go.Proofs.Ytobdcnpifbnjaac
