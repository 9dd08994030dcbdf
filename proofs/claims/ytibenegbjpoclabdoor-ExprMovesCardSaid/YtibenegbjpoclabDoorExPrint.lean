/- Written with all its brackets, and read again, an expression is the same one. No program in this text. -/
import Derived.Test.YtibenegbjpoclabDoorExMoves
import Derived.Test.YtibenegbjpoclabDoorXBase
namespace Go.Proofs.YtibenegbjpoclabDoor
open Go.RowKit

/-- An expression that may have been read. -/
inductive Wf : Ex → Prop where
  | num {n : Int} : -2147483648 ≤ n → n < 2147483648 → Wf (.mk 1 n [] [])
  | name {t : List UInt8} : nameR t = true → Wf (.mk 2 0 t [])
  | neg {k : Ex} : Wf k → Wf (.mk 3 0 [] [k])
  | not {k : Ex} : Wf k → Wf (.mk 4 0 [] [k])
  | two {kd : Int} {a b : Ex} : 5 ≤ kd → kd ≤ 11 → Wf a → Wf b → Wf (.mk kd 0 [] [a, b])

theorem strength_kind {s : List UInt8} (h : (strengthR s).1 ≠ 0) : 5 ≤ (strengthR s).2 ∧ (strengthR s).2 ≤ 11 := by
  unfold strengthR at h ⊢
  by_cases h1 : s = [124]
  · rw [if_pos h1]; decide
  rw [if_neg h1] at h ⊢
  by_cases h2 : s = [38]
  · rw [if_pos h2]; decide
  rw [if_neg h2] at h ⊢
  by_cases h3 : s = [60, 60]
  · rw [if_pos h3]; decide
  rw [if_neg h3] at h ⊢
  by_cases h4 : s = [62, 62]
  · rw [if_pos h4]; decide
  rw [if_neg h4] at h ⊢
  by_cases h5 : s = [43]
  · rw [if_pos h5]; decide
  rw [if_neg h5] at h ⊢
  by_cases h6 : s = [45]
  · rw [if_pos h6]; decide
  rw [if_neg h6] at h ⊢
  by_cases h7 : s = [42]
  · rw [if_pos h7]; decide
  rw [if_neg h7] at h
  exact absurd rfl h

theorem leaf_wf {l r : List Tok} {e : Ex} (h : leafR l = .ok (e, r)) : Wf e ∧ r.length < l.length := by
  cases l with
  | nil => simp [leafR] at h
  | cons t l =>
    unfold leafR at h
    by_cases h2 : t.kind = 2
    · simp only [if_pos h2] at h
      injection h with h
      injection h with h3 h4
      subst h3 h4
      exact ⟨.num (sgn_is _).1 (sgn_is _).2, by simp⟩
    simp only [if_neg h2] at h
    by_cases h1 : t.kind ≠ 1
    · simp only [if_pos h1] at h; cases h
    simp only [if_neg h1] at h
    by_cases hn : nameR t.text = true
    · simp only [if_pos hn] at h
      injection h with h
      injection h with h3 h4
      subst h3 h4
      exact ⟨.name hn, by simp⟩
    · simp only [if_neg hn] at h; cases h

theorem tail_le (l : List Tok) : l.tail.length ≤ l.length := by cases l <;> simp
theorem sign_pos {l : List Tok} (h : signOf l ≠ []) : l.tail.length < l.length := by
  cases l with
  | nil => exact absurd rfl h
  | cons t r => simp

theorem read_wf : ∀ (f : Nat),
    (∀ deep l e r, primeR f deep l = some (.ok (e, r)) → Wf e ∧ r.length < l.length) ∧
    (∀ least deep l e r, 1 ≤ least → climbR f least deep l = some (.ok (e, r)) → Wf e ∧ r.length < l.length) ∧
    (∀ least deep k l e r, 1 ≤ least → Wf k → moreR f least deep k l = some (.ok (e, r)) → Wf e ∧ r.length ≤ l.length)
  | 0 => ⟨fun _ _ _ _ h => by simp [primeR] at h, fun _ _ _ _ _ _ h => by simp [climbR] at h, fun _ _ _ _ _ _ _ _ h => by simp [moreR] at h⟩
  | f + 1 => by
    obtain ⟨i1, i2, i3⟩ := read_wf f
    refine ⟨fun deep l e r h => ?_, fun least deep l e r hl h => ?_, fun least deep k l e r hl hk h => ?_⟩
    · rw [primeR] at h
      by_cases h6 : 6 < deep
      · rw [if_pos h6] at h; cases h
      rw [if_neg h6] at h
      by_cases ha : signOf l = [45]
      · rw [if_pos ha] at h
        have hp := sign_pos (l := l) (by rw [ha]; simp)
        cases hq : primeR f (deep + 1) l.tail with
        | none => rw [hq] at h; cases h
        | some x =>
          rw [hq] at h
          cases x with
          | error x => cases h
          | ok y =>
            obtain ⟨k, s⟩ := y
            injection h with h
            injection h with h
            injection h with h1 h2
            subst h1 h2
            obtain ⟨w1, w2⟩ := i1 _ _ _ _ hq
            exact ⟨.neg w1, by omega⟩
      rw [if_neg ha] at h
      by_cases hb : signOf l = [126]
      · rw [if_pos hb] at h
        have hp := sign_pos (l := l) (by rw [hb]; simp)
        cases hq : primeR f (deep + 1) l.tail with
        | none => rw [hq] at h; cases h
        | some x =>
          rw [hq] at h
          cases x with
          | error x => cases h
          | ok y =>
            obtain ⟨k, s⟩ := y
            injection h with h
            injection h with h
            injection h with h1 h2
            subst h1 h2
            obtain ⟨w1, w2⟩ := i1 _ _ _ _ hq
            exact ⟨.not w1, by omega⟩
      rw [if_neg hb] at h
      by_cases hc : signOf l = [40]
      · rw [if_pos hc] at h
        have hp := sign_pos (l := l) (by rw [hc]; simp)
        cases hq : climbR f 1 (deep + 1) l.tail with
        | none => rw [hq] at h; cases h
        | some x =>
          rw [hq] at h
          cases x with
          | error x => cases h
          | ok y =>
            obtain ⟨k, s⟩ := y
            obtain ⟨w1, w2⟩ := i2 _ _ _ _ _ (Nat.le_refl _) hq
            by_cases hd : signOf s = [41]
            · simp only [if_pos hd] at h
              injection h with h
              injection h with h
              injection h with h1 h2
              subst h1 h2
              have := tail_le s
              exact ⟨w1, by omega⟩
            · simp only [if_neg hd] at h
              cases h
      rw [if_neg hc] at h
      injection h with h
      exact leaf_wf h
    · rw [climbR] at h
      cases hq : primeR f deep l with
      | none => rw [hq] at h; cases h
      | some x =>
        rw [hq] at h
        cases x with
        | error x => cases h
        | ok y =>
          obtain ⟨k, s⟩ := y
          obtain ⟨w1, w2⟩ := i1 _ _ _ _ hq
          obtain ⟨w3, w4⟩ := i3 _ _ _ _ _ _ hl w1 h
          exact ⟨w3, by omega⟩
    · rw [moreR] at h
      by_cases h6 : (strengthR (signOf l)).1 < least
      · rw [if_pos h6] at h
        injection h with h
        injection h with h
        injection h with h1 h2
        subst h1 h2
        exact ⟨hk, Nat.le_refl _⟩
      rw [if_neg h6] at h
      have hne : (strengthR (signOf l)).1 ≠ 0 := by omega
      have hs := strength_kind hne
      have hp := tail_le l
      cases hq : climbR f ((strengthR (signOf l)).1 + 1) deep l.tail with
      | none => rw [hq] at h; cases h
      | some x =>
        rw [hq] at h
        cases x with
        | error x => cases h
        | ok y =>
          obtain ⟨k2, s⟩ := y
          obtain ⟨w1, w2⟩ := i2 _ _ _ _ _ (by omega) hq
          obtain ⟨w3, w4⟩ := i3 _ _ _ _ _ _ hl (.two hs.1 hs.2 hk w1) h
          exact ⟨w3, by omega⟩

theorem parses_wf {l r : List Tok} {e : Ex} (h : Parses l (.ok (e, r))) : Wf e ∧ r.length < l.length := by
  obtain ⟨f, hf⟩ := h
  exact (read_wf f).2.1 _ _ _ _ _ (Nat.le_refl _) hf

/-- The sign of a kind. -/
def signK (k : Int) : List UInt8 :=
  if k = 11 then [124] else if k = 10 then [38] else if k = 8 then [60, 60] else if k = 9 then [62, 62] else if k = 6 then [43] else if k = 7 then [45] else [42]

theorem signK_strength {k : Int} (h1 : 5 ≤ k) (h2 : k ≤ 11) : (strengthR (signK k)).2 = k ∧ 1 ≤ (strengthR (signK k)).1 := by
  have : k = 5 ∨ k = 6 ∨ k = 7 ∨ k = 8 ∨ k = 9 ∨ k = 10 ∨ k = 11 := by omega
  rcases this with rfl | rfl | rfl | rfl | rfl | rfl | rfl <;> decide

def sg (t : List UInt8) : Tok := ⟨3, 0, t⟩

mutual
/-- An expression's tokens, with all its brackets. -/
def etoks : Ex → List Tok
  | .mk kind n name kids =>
    if kind = 1 then [⟨2, n % 4294967296, []⟩]
    else if kind = 2 then [⟨1, 0, name⟩]
    else if kind = 3 then sg [45] :: etoksL kids
    else if kind = 4 then sg [126] :: etoksL kids
    else sg [40] :: (etoksS (signK kind) kids ++ [sg [41]])
def etoksL : List Ex → List Tok
  | [] => []
  | k :: r => etoks k ++ etoksL r
def etoksS (s : List UInt8) : List Ex → List Tok
  | [] => []
  | k :: r => etoks k ++ (if r.length = 0 then [] else [sg s]) ++ etoksS s r
end

theorem etoks_num (n : Int) : etoks (.mk 1 n [] []) = [⟨2, n % 4294967296, []⟩] := by simp [etoks]
theorem etoks_name (t : List UInt8) : etoks (.mk 2 0 t []) = [⟨1, 0, t⟩] := by simp [etoks]
theorem etoks_neg (k : Ex) : etoks (.mk 3 0 [] [k]) = sg [45] :: etoks k := by simp [etoks, etoksL]
theorem etoks_not (k : Ex) : etoks (.mk 4 0 [] [k]) = sg [126] :: etoks k := by simp [etoks, etoksL]
theorem etoks_two {kd : Int} (h : 5 ≤ kd) (a b : Ex) : etoks (.mk kd 0 [] [a, b]) = sg [40] :: (etoks a ++ sg (signK kd) :: (etoks b ++ [sg [41]])) := by
  rw [etoks, if_neg (by omega), if_neg (by omega), if_neg (by omega), if_neg (by omega)]
  simp [etoksS]

/-- How many are around one another, at the most. -/
def deepE : Ex → Nat
  | .mk _ _ _ [] => 0
  | .mk _ _ _ [k] => deepE k + 1
  | .mk _ _ _ (a :: b :: _) => max (deepE a) (deepE b) + 1

theorem sign_sg (t : List UInt8) (r : List Tok) : signOf (sg t :: r) = t := by simp [signOf, sg]

theorem again {e : Ex} (hw : Wf e) : ∀ (deep : Nat) (rest : List Tok),
    (deep + deepE e ≤ 6 → ∃ f, primeR f deep (etoks e ++ rest) = some (.ok (e, rest))) ∧
    (6 < deep + deepE e → ∃ f, primeR f deep (etoks e ++ rest) = some (.error 10)) := by
  induction hw with
  | @num n h1 h2 =>
    intro deep rest
    rw [etoks_num]
    refine ⟨fun h => ⟨1, ?_⟩, fun h => ⟨1, ?_⟩⟩
    · simp only [deepE] at h
      rw [primeR, if_neg (by omega)]
      have : signOf ([⟨2, n % 4294967296, []⟩] ++ rest) = [] := by simp [signOf]
      rw [this, if_neg (by simp), if_neg (by simp), if_neg (by simp)]
      have hs : sgn (n % 4294967296) = n := by unfold sgn wrap32; omega
      simp [leafR, hs]
    · simp only [deepE] at h
      rw [primeR, if_pos (by omega)]
  | @name t ht =>
    intro deep rest
    rw [etoks_name]
    refine ⟨fun h => ⟨1, ?_⟩, fun h => ⟨1, ?_⟩⟩
    · simp only [deepE] at h
      rw [primeR, if_neg (by omega)]
      have : signOf ([⟨1, 0, t⟩] ++ rest) = [] := by simp [signOf]
      rw [this, if_neg (by simp), if_neg (by simp), if_neg (by simp)]
      simp [leafR, ht]
    · simp only [deepE] at h
      rw [primeR, if_pos (by omega)]
  | @neg k _ ih =>
    intro deep rest
    rw [etoks_neg, List.cons_append]
    refine ⟨fun h => ?_, fun h => ?_⟩
    · simp only [deepE] at h
      obtain ⟨f, hf⟩ := (ih (deep + 1) rest).1 (by omega)
      refine ⟨f + 1, ?_⟩
      rw [primeR, if_neg (by omega), sign_sg, if_pos rfl, List.tail_cons, hf]
    · simp only [deepE] at h
      by_cases h6 : 6 < deep
      · exact ⟨1, by rw [primeR, if_pos h6]⟩
      · obtain ⟨f, hf⟩ := (ih (deep + 1) rest).2 (by omega)
        refine ⟨f + 1, ?_⟩
        rw [primeR, if_neg h6, sign_sg, if_pos rfl, List.tail_cons, hf]
  | @not k _ ih =>
    intro deep rest
    rw [etoks_not, List.cons_append]
    refine ⟨fun h => ?_, fun h => ?_⟩
    · simp only [deepE] at h
      obtain ⟨f, hf⟩ := (ih (deep + 1) rest).1 (by omega)
      refine ⟨f + 1, ?_⟩
      rw [primeR, if_neg (by omega), sign_sg, if_neg (by decide), if_pos rfl, List.tail_cons, hf]
    · simp only [deepE] at h
      by_cases h6 : 6 < deep
      · exact ⟨1, by rw [primeR, if_pos h6]⟩
      · obtain ⟨f, hf⟩ := (ih (deep + 1) rest).2 (by omega)
        refine ⟨f + 1, ?_⟩
        rw [primeR, if_neg h6, sign_sg, if_neg (by decide), if_pos rfl, List.tail_cons, hf]
  | @two kd a b h5 h11 _ _ iha ihb =>
    intro deep rest
    obtain ⟨hk, hst⟩ := signK_strength h5 h11
    rw [etoks_two h5]
    have e1 : sg [40] :: (etoks a ++ sg (signK kd) :: (etoks b ++ [sg [41]])) ++ rest = sg [40] :: (etoks a ++ (sg (signK kd) :: (etoks b ++ (sg [41] :: rest)))) := by simp
    rw [e1]
    clear e1
    refine ⟨fun h => ?_, fun h => ?_⟩
    · simp only [deepE] at h
      obtain ⟨f1, hf1⟩ := (iha (deep + 1) (sg (signK kd) :: (etoks b ++ (sg [41] :: rest)))).1 (by omega)
      obtain ⟨f2, hf2⟩ := (ihb (deep + 1) (sg [41] :: rest)).1 (by omega)
      have g1 := prime_le (show f1 ≤ f1 + f2 + 3 by omega) hf1
      have g2 := prime_le (show f2 ≤ f1 + f2 + 1 by omega) hf2
      have z41 : (strengthR [41]).1 = 0 := by decide
      have m2 : climbR (f1 + f2 + 2) ((strengthR (signK kd)).1 + 1) (deep + 1) (etoks b ++ (sg [41] :: rest)) = some (.ok (b, sg [41] :: rest)) := by
        rw [climbR, g2]
        simp only
        rw [moreR, sign_sg, z41, if_pos (by omega)]
      refine ⟨f1 + f2 + 5, ?_⟩
      rw [primeR, if_neg (by omega), sign_sg, if_neg (by decide), if_neg (by decide), if_pos rfl, List.tail_cons, climbR, g1]
      simp only
      rw [moreR, sign_sg, if_neg (by omega), List.tail_cons, m2, hk]
      simp only
      rw [moreR, sign_sg, z41, if_pos (by omega)]
      simp only
      rw [sign_sg, if_pos rfl, List.tail_cons]
    · simp only [deepE] at h
      by_cases h6 : 6 < deep
      · exact ⟨1, by rw [primeR, if_pos h6]⟩
      · by_cases ha : deep + 1 + deepE a ≤ 6
        · obtain ⟨f1, hf1⟩ := (iha (deep + 1) (sg (signK kd) :: (etoks b ++ (sg [41] :: rest)))).1 ha
          obtain ⟨f2, hf2⟩ := (ihb (deep + 1) (sg [41] :: rest)).2 (by omega)
          have g1 := prime_le (show f1 ≤ f1 + f2 + 3 by omega) hf1
          have g2 := prime_le (show f2 ≤ f1 + f2 + 1 by omega) hf2
          refine ⟨f1 + f2 + 5, ?_⟩
          rw [primeR, if_neg h6, sign_sg, if_neg (by decide), if_neg (by decide), if_pos rfl, List.tail_cons, climbR, g1]
          simp only
          rw [moreR, sign_sg, if_neg (by omega), List.tail_cons, climbR, g2]
        · obtain ⟨f1, hf1⟩ := (iha (deep + 1) (sg (signK kd) :: (etoks b ++ (sg [41] :: rest)))).2 (by omega)
          refine ⟨f1 + 2, ?_⟩
          rw [primeR, if_neg h6, sign_sg, if_neg (by decide), if_neg (by decide), if_pos rfl, List.tail_cons, climbR, hf1]

/-- Read again: the same one; or it is too deep. -/
theorem parses_again {e : Ex} (hw : Wf e) : Parses (etoks e) (.ok (e, [])) ∨ Parses (etoks e) (.error 10) := by
  have hh := again hw 0 []
  rw [List.append_nil] at hh
  by_cases h : 0 + deepE e ≤ 6
  · obtain ⟨f, hf⟩ := hh.1 h
    refine Or.inl ⟨f + 2, ?_⟩
    rw [climbR, prime_le (show f ≤ f + 1 by omega) hf]
    simp only
    rw [moreR, if_pos (by decide)]
  · obtain ⟨f, hf⟩ := hh.2 (by omega)
    refine Or.inr ⟨f + 1, ?_⟩
    rw [climbR, hf]

theorem name_good {t : List UInt8} (h : nameR t = true) : Good ⟨1, 0, t⟩ := by
  cases t with
  | nil => cases h
  | cons c r =>
    simp [nameR] at h
    obtain ⟨⟨_, hd⟩, hc, hr⟩ := h
    refine Or.inl ⟨c, r, rfl, ?_, ?_⟩
    · simp [pb, nameB, digitB] at hd hc
      simp only [pb]
      rcases hc.2 with h1 | h1
      · exact h1
      · omega
    · rw [List.all_eq_true]
      intro x hx
      have := hr x hx
      simp [pb, nameB] at this
      simp [pb, wordB]
      rcases this.2 with h1 | h1
      · exact Or.inl (Or.inl h1)
      · exact Or.inl (Or.inr h1)

theorem sg_good {c : UInt8} (h : pb signB c = true) : Good (sg [c]) := Or.inr (Or.inr ⟨[c], rfl, Or.inr (Or.inr ⟨c, rfl, h⟩)⟩)
theorem signK_good (k : Int) : Good (sg (signK k)) := by
  unfold signK
  by_cases h1 : k = 11
  · rw [if_pos h1]; exact sg_good (by decide)
  rw [if_neg h1]
  by_cases h2 : k = 10
  · rw [if_pos h2]; exact sg_good (by decide)
  rw [if_neg h2]
  by_cases h3 : k = 8
  · rw [if_pos h3]; exact Or.inr (Or.inr ⟨_, rfl, Or.inl rfl⟩)
  rw [if_neg h3]
  by_cases h4 : k = 9
  · rw [if_pos h4]; exact Or.inr (Or.inr ⟨_, rfl, Or.inr (Or.inl rfl)⟩)
  rw [if_neg h4]
  by_cases h5 : k = 6
  · rw [if_pos h5]; exact sg_good (by decide)
  rw [if_neg h5]
  by_cases h6 : k = 7
  · rw [if_pos h6]; exact sg_good (by decide)
  rw [if_neg h6]
  exact sg_good (by decide)

theorem etoks_good {e : Ex} (hw : Wf e) : ∀ t, t ∈ etoks e → Good t := by
  induction hw with
  | @num n h1 h2 =>
    intro t ht
    rw [etoks_num] at ht
    simp at ht
    subst ht
    exact Or.inr (Or.inl ⟨(n % 4294967296).toNat, by congr 1; omega, by omega⟩)
  | name h =>
    intro t ht
    rw [etoks_name] at ht
    simp at ht
    subst ht
    exact name_good h
  | neg _ ih =>
    intro t ht
    rw [etoks_neg] at ht
    rcases List.mem_cons.1 ht with rfl | ht
    · exact sg_good (by decide)
    · exact ih t ht
  | not _ ih =>
    intro t ht
    rw [etoks_not] at ht
    rcases List.mem_cons.1 ht with rfl | ht
    · exact sg_good (by decide)
    · exact ih t ht
  | @two kd a b h5 h11 _ _ iha ihb =>
    intro t ht
    rw [etoks_two h5] at ht
    simp only [List.mem_cons, List.mem_append, List.not_mem_nil, or_false] at ht
    rcases ht with rfl | ht | rfl | ht | rfl
    · exact sg_good (by decide)
    · exact iha t ht
    · exact signK_good kd
    · exact ihb t ht
    · exact sg_good (by decide)

/-- What is written, as a line. -/
theorem print_again {e : Ex} (hw : Wf e) (h : (printL (etoks e)).length ≤ 80) : lineErr (printL (etoks e)) = 0 ∧ lineList (printL (etoks e)) = etoks e :=
  line_done h (by rw [code_print _ (etoks_good hw)]; exact toks_print _ (etoks_good hw))

end Go.Proofs.YtibenegbjpoclabDoor
