/- How long the text of an expression is that was read. -/
import Derived.Test.YtibenegbjpoclabDoorPrC
namespace Go.Proofs.YtibenegbjpoclabDoor
open Go.RowKit

theorem len_num (n : Int) : (prE (.mk 1 n [] [])).length ≤ 24 := by
  have h := Lib.itoa_length_le (n % 4294967296) (by omega) (by omega)
  have e : prE (.mk 1 n [] []) = Lib.itoa (n % 4294967296) := by
    unfold prE
    rw [etoks_num, printL_cons, tailL_nil]
    simp [prT]
  rw [e]
  omega
theorem len_name {t : List UInt8} (h : nameR t = true) : (prE (.mk 2 0 t [])).length ≤ 24 := by
  rw [prE_name]
  cases t with
  | nil => simp
  | cons c r =>
    have : r.length < 10 := by
      unfold nameR at h
      simp only [Bool.and_eq_true, decide_eq_true_eq] at h
      exact h.1.1
    simp only [List.length_cons]
    omega
theorem len_neg {k : Ex} (h : Wf k) : (prE (.mk 3 0 [] [k])).length = 2 + (prE k).length := by rw [prE_neg h]; simp; omega
theorem len_not {k : Ex} (h : Wf k) : (prE (.mk 4 0 [] [k])).length = 2 + (prE k).length := by rw [prE_not h]; simp; omega
theorem signK_len (k : Int) : (signK k).length ≤ 2 := by
  unfold signK
  repeat' split
  all_goals decide
theorem len_two {kd : Int} {a b : Ex} (h5 : 5 ≤ kd) (ha : Wf a) (hb : Wf b) : (prE (.mk kd 0 [] [a, b])).length ≤ 8 + (prE a).length + (prE b).length := by
  have := signK_len kd
  rw [prE_two h5 ha hb]
  simp only [List.length_append, List.length_cons, List.length_nil]
  omega

theorem leaf_len {l r : List Tok} {e : Ex} (h : leafR l = .ok (e, r)) : Wf e ∧ (prE e).length + 24 * r.length ≤ 24 * l.length := by
  cases l with
  | nil => simp [leafR] at h
  | cons t l =>
    unfold leafR at h
    by_cases h2 : t.kind = 2
    · simp only [if_pos h2] at h
      injection h with h
      injection h with h3 h4
      subst h3 h4
      exact ⟨.num (sgn_is _).1 (sgn_is _).2, by have := len_num (sgn t.n); simp only [List.length_cons]; omega⟩
    simp only [if_neg h2] at h
    by_cases h1 : t.kind ≠ 1
    · simp only [if_pos h1] at h; cases h
    simp only [if_neg h1] at h
    by_cases hn : nameR t.text = true
    · simp only [if_pos hn] at h
      injection h with h
      injection h with h3 h4
      subst h3 h4
      exact ⟨.name hn, by have := len_name hn; simp only [List.length_cons]; omega⟩
    · simp only [if_neg hn] at h; cases h

theorem read_len : ∀ (f : Nat),
    (∀ deep l e r, primeR f deep l = some (.ok (e, r)) → Wf e ∧ (prE e).length + 24 * r.length ≤ 24 * l.length) ∧
    (∀ least deep l e r, 1 ≤ least → climbR f least deep l = some (.ok (e, r)) → Wf e ∧ (prE e).length + 24 * r.length ≤ 24 * l.length) ∧
    (∀ least deep k l e r, 1 ≤ least → Wf k → moreR f least deep k l = some (.ok (e, r)) → Wf e ∧ (prE e).length + 24 * r.length ≤ (prE k).length + 24 * l.length)
  | 0 => ⟨fun _ _ _ _ h => by simp [primeR] at h, fun _ _ _ _ _ _ h => by simp [climbR] at h, fun _ _ _ _ _ _ _ _ h => by simp [moreR] at h⟩
  | f + 1 => by
    obtain ⟨i1, i2, i3⟩ := read_len f
    refine ⟨fun deep l e r h => ?_, fun least deep l e r hl h => ?_, fun least deep k l e r hl hk h => ?_⟩
    · rw [primeR] at h
      by_cases h6 : 6 < deep
      · rw [if_pos h6] at h; cases h
      rw [if_neg h6] at h
      by_cases ha : signOf l = [45]
      · rw [if_pos ha] at h
        have hp := sign_pos (l := l) (by rw [ha]; simp)
        cases hq : primeR f (deep + 1) l.tail with
        | none => rw [hq] at h; cases h
        | some x =>
          rw [hq] at h
          cases x with
          | error x => cases h
          | ok y =>
            obtain ⟨k, s⟩ := y
            injection h with h
            injection h with h
            injection h with h1 h2
            subst h1 h2
            obtain ⟨w1, w2⟩ := i1 _ _ _ _ hq
            exact ⟨.neg w1, by rw [len_neg w1]; omega⟩
      rw [if_neg ha] at h
      by_cases hb : signOf l = [126]
      · rw [if_pos hb] at h
        have hp := sign_pos (l := l) (by rw [hb]; simp)
        cases hq : primeR f (deep + 1) l.tail with
        | none => rw [hq] at h; cases h
        | some x =>
          rw [hq] at h
          cases x with
          | error x => cases h
          | ok y =>
            obtain ⟨k, s⟩ := y
            injection h with h
            injection h with h
            injection h with h1 h2
            subst h1 h2
            obtain ⟨w1, w2⟩ := i1 _ _ _ _ hq
            exact ⟨.not w1, by rw [len_not w1]; omega⟩
      rw [if_neg hb] at h
      by_cases hc : signOf l = [40]
      · rw [if_pos hc] at h
        have hp := sign_pos (l := l) (by rw [hc]; simp)
        cases hq : climbR f 1 (deep + 1) l.tail with
        | none => rw [hq] at h; cases h
        | some x =>
          rw [hq] at h
          cases x with
          | error x => cases h
          | ok y =>
            obtain ⟨k, s⟩ := y
            obtain ⟨w1, w2⟩ := i2 _ _ _ _ _ (Nat.le_refl _) hq
            by_cases hd : signOf s = [41]
            · simp only [if_pos hd] at h
              injection h with h
              injection h with h
              injection h with h1 h2
              subst h1 h2
              have := tail_le s
              exact ⟨w1, by omega⟩
            · simp only [if_neg hd] at h
              cases h
      rw [if_neg hc] at h
      injection h with h
      exact leaf_len h
    · rw [climbR] at h
      cases hq : primeR f deep l with
      | none => rw [hq] at h; cases h
      | some x =>
        rw [hq] at h
        cases x with
        | error x => cases h
        | ok y =>
          obtain ⟨k, s⟩ := y
          obtain ⟨w1, w2⟩ := i1 _ _ _ _ hq
          obtain ⟨w3, w4⟩ := i3 _ _ _ _ _ _ hl w1 h
          exact ⟨w3, by omega⟩
    · rw [moreR] at h
      by_cases h6 : (strengthR (signOf l)).1 < least
      · rw [if_pos h6] at h
        injection h with h
        injection h with h
        injection h with h1 h2
        subst h1 h2
        exact ⟨hk, Nat.le_refl _⟩
      rw [if_neg h6] at h
      have hne : (strengthR (signOf l)).1 ≠ 0 := by omega
      have hs := strength_kind hne
      have hp := sign_pos (l := l) (by intro e; rw [e] at hne; exact hne (by decide))
      cases hq : climbR f ((strengthR (signOf l)).1 + 1) deep l.tail with
      | none => rw [hq] at h; cases h
      | some x =>
        rw [hq] at h
        cases x with
        | error x => cases h
        | ok y =>
          obtain ⟨k2, s⟩ := y
          obtain ⟨w1, w2⟩ := i2 _ _ _ _ _ (by omega) hq
          obtain ⟨w3, w4⟩ := i3 _ _ _ _ _ _ hl (.two hs.1 hs.2 hk w1) h
          have := len_two hs.1 hk w1
          exact ⟨w3, by omega⟩

theorem parses_len {l r : List Tok} {e : Ex} (h : Parses l (.ok (e, r))) : Wf e ∧ (prE e).length ≤ 24 * l.length := by
  obtain ⟨f, hf⟩ := h
  have := (read_len f).2.1 _ _ _ _ _ (Nat.le_refl _) hf
  exact ⟨this.1, by omega⟩

end Go.Proofs.YtibenegbjpoclabDoor
