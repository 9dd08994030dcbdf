/- The contract of scan's Print. Written, and read again: the tokens of a printed line. A line's tokens, with blanks between or none: the mathematics (DisTurns). -/
import Derived.Test.YtjmjhbdlbmnllaaGreatDoorPut23
import Derived.Laws.CopyOwn
import Derived.Deep.OwnRows
import Derived.Lib.ItoaMem
import Derived.Lib.AppendIntMem
import Derived.Lib.ItoaLen
import Derived.Lib.Join
namespace Go.Proofs.YtjmjhbdlbmnllaaGreatDoor.Sc
open Go.RowKit

/-- What is written of a token. -/
def prT (t : Tok) : List UInt8 := if t.kind = 2 then Lib.itoa t.n else t.text
theorem itoa_any (n : Int) (h0 : -9223372036854775808 ≤ n) (h1 : n ≤ 9223372036854775807) (w : World) (hG : Glob w) :
    Calls Tryz.prog 27 #[.int .i64 n] w fun e w' => e = .returned (.string ⟨(Lib.itoa n).toArray⟩) ∧ Below w.heap.size w w' := by
  refine (Tryz.strconv_Itoa n h0 h1 w hG.tab).mono ?_
  rintro e w' ⟨rfl, k, os, rfl⟩
  exact ⟨rfl, Lib.below_grow _ _ (Nat.le_refl _) _ _⟩

end Go.Proofs.YtjmjhbdlbmnllaaGreatDoor.Sc

namespace Go.Proofs.YtjmjhbdlbmnllaaGreatDoor.Sc
open Go.RowKit

def Good (t : Tok) : Prop :=
  (∃ c r, t = ⟨1, 0, c :: r⟩ ∧ pb letterB c = true ∧ r.all (pb wordB) = true) ∨
  (∃ u : Nat, t = ⟨2, u, []⟩ ∧ u ≤ 4294967295) ∨
  (∃ l, t = ⟨3, 0, l⟩ ∧ (l = [60, 60] ∨ l = [62, 62] ∨ ∃ c, l = [c] ∧ pb signB c = true))

theorem hasPrefix_two {l : List UInt8} {a b : UInt8} (h : Lib.hasPrefix l [a, b] = true) : ∃ r, l = a :: b :: r := by
  unfold Lib.hasPrefix at h
  obtain ⟨r, rfl⟩ := List.isPrefixOf_iff_prefix.1 h
  exact ⟨r, rfl⟩

/-- A list of bytes ends there. -/
def Ends (l : List UInt8) : Prop := l = [] ∨ ∃ r, l = 32 :: r

theorem span_stop {p : UInt8 → Bool} (h32 : p 32 = false) : ∀ (l rest : List UInt8), l.all p = true → Ends rest → (l ++ rest).takeWhile p = l ∧ (l ++ rest).dropWhile p = rest
  | [], rest, _, he => by
    rcases he with rfl | ⟨r, rfl⟩
    · exact ⟨rfl, rfl⟩
    · simp [h32]
  | c :: l, rest, ha, he => by
    simp only [List.all_cons, Bool.and_eq_true] at ha
    have ih := span_stop h32 l rest ha.2 he
    simp [ha.1, ih.1, ih.2]

theorem decDigits_all (u : Nat) : (Lib.decDigits u).all (pb digitB) = true := by
  induction u using Nat.strongRecOn with
  | _ u ih =>
    by_cases h : u < 10
    · rw [Lib.decDigits_one h]
      have : (48 + u) % 256 = 48 + u := by omega
      simp [pb, digitB, this]; omega
    · rw [Lib.decDigits, dif_neg h, List.all_append, ih (u / 10) (by omega)]
      have : (48 + u % 10) % 256 = 48 + u % 10 := by omega
      simp [pb, digitB, this]; omega

theorem decDigits_ne (u : Nat) : Lib.decDigits u ≠ [] := by
  intro h
  have := Lib.decDigits_length u
  have := Lib.nDigits_pos u
  rw [h] at *
  simp at *
  omega

theorem parseN_append (l : List UInt8) (c : UInt8) : ∀ acc n, parseN 10 acc l = some n → parseN 10 acc (l ++ [c]) = parseN 10 n [c] := by
  induction l with
  | nil => intro acc n h; simp [parseN] at h; subst h; rfl
  | cons d r ih =>
    intro acc n h
    unfold parseN at h
    rw [List.cons_append, parseN]
    split at h
    · cases h
    · rename_i v hv
      split at h
      · rename_i hle
        simp only [if_pos hle]
        exact ih _ _ h
      · cases h

theorem parse_digits (u : Nat) : u ≤ 4294967295 → parseN 10 0 (Lib.decDigits u) = some u := by
  induction u using Nat.strongRecOn with
  | _ u ih =>
    intro hu
    by_cases h : u < 10
    · rw [Lib.decDigits_one h]
      have e : (UInt8.ofNat (48 + u)).toNat = 48 + u := by simp; omega
      have hv : digV 10 (UInt8.ofNat (48 + u)).toNat = some u := by rw [e]; simp [digV]; omega
      simp only [parseN, hv]
      rw [if_pos (by omega)]
      simp
    · rw [Lib.decDigits, dif_neg h]
      rw [parseN_append _ _ 0 (u / 10) (ih (u / 10) (by omega) (by omega))]
      have e : (UInt8.ofNat (48 + u % 10)).toNat = 48 + u % 10 := by simp; omega
      have hv : digV 10 (UInt8.ofNat (48 + u % 10)).toNat = some (u % 10) := by rw [e]; simp [digV]; omega
      simp only [parseN, hv]
      rw [if_pos (by omega)]
      simp; omega

theorem digit_num {c : UInt8} (h : pb digitB c = true) : pb numB c = true := by unfold pb numB at *; simp [h]
theorem digit_noletter {c : UInt8} (h : pb digitB c = true) : pb letterB c = false := by
  unfold pb digitB letterB at *
  simp at h ⊢
  omega
theorem letter_word {c : UInt8} (h : pb letterB c = true) : pb wordB c = true := by unfold pb wordB at *; simp [h]
theorem num_numL {u : Nat} (hu : u ≤ 4294967295) : numL (Lib.decDigits u) = some u := by
  have hall := decDigits_all u
  have hp : Lib.hasPrefix (Lib.decDigits u) [48, 120] = false := by
    cases h : Lib.hasPrefix (Lib.decDigits u) [48, 120]
    · rfl
    · obtain ⟨r, e⟩ := hasPrefix_two h
      rw [e] at hall
      simp [pb, digitB] at hall
  unfold numL parseU
  rw [if_neg (by simp [hp]), if_neg (decDigits_ne u), parse_digits u hu]

theorem sign_nodigit {c : UInt8} (h : pb signB c = true) : pb letterB c = false ∧ pb digitB c = false ∧ pb blankB c = false ∧ c ≠ 60 ∧ c ≠ 62 ∧ c ≠ 59 := by
  have := all8 (fun c => !pb signB c || (!pb letterB c && !pb digitB c && !pb blankB c && c != 60 && c != 62 && c != 59)) (by decide +kernel) c
  simp [h] at this
  obtain ⟨⟨⟨⟨⟨a, b⟩, d⟩, e⟩, f⟩, g⟩ := this
  exact ⟨a, b, d, e, f, g⟩

/-- What is written of a token, with a blank or nothing behind it, is read as that token. -/
theorem next_pr {t : Tok} (ht : Good t) {rest : List UInt8} (he : Ends rest) : nextT (prT t ++ rest) = .tok t rest ∧ (prT t ++ rest).dropWhile (pb blankB) = prT t ++ rest ∧ (∀ c, c ∈ prT t → c ≠ 59) := by
  rcases ht with ⟨c, r, rfl, hc, hr⟩ | ⟨u, rfl, hu⟩ | ⟨l, rfl, hl⟩
  · have hall : (c :: r).all (pb wordB) = true := by simp [letter_word hc, hr]
    have hs := span_stop (p := pb wordB) (by decide) (c :: r) rest hall he
    have e : prT ⟨1, 0, c :: r⟩ = c :: r := rfl
    rw [e]
    have hb : pb blankB c = false := by
      have := all8 (fun c => !pb letterB c || !pb blankB c) (by decide +kernel) c
      simp [hc] at this
      exact this
    refine ⟨?_, ?_, ?_⟩
    · rw [List.cons_append] at hs ⊢
      rw [nextT_cons, if_pos hc, hs.1, hs.2]
    · rw [List.cons_append, List.dropWhile_cons, hb]
      rfl
    · intro d hd e
      subst e
      have := List.all_eq_true.1 hall 59 hd
      revert this
      decide
  · have hall := decDigits_all u
    have hne := decDigits_ne u
    have e : prT ⟨2, u, []⟩ = Lib.decDigits u := by
      show Lib.itoa (u : Int) = _
      exact Lib.itoa_nonneg u
    rw [e]
    have hn := num_numL hu
    have hs := span_stop (p := pb numB) (by decide) (Lib.decDigits u) rest (by
      rw [List.all_eq_true] at hall ⊢
      intro x hx
      exact digit_num (hall x hx)) he
    cases hd : Lib.decDigits u with
    | nil => exact absurd hd hne
    | cons c r =>
      rw [hd] at hall hs hn
      have hc : pb digitB c = true := by simp only [List.all_cons, Bool.and_eq_true] at hall; exact hall.1
      have hb : pb blankB c = false := by
        have := all8 (fun c => !pb digitB c || !pb blankB c) (by decide +kernel) c
        simp [hc] at this
        exact this
      refine ⟨?_, ?_, ?_⟩
      · rw [List.cons_append] at hs ⊢
        rw [nextT_cons, if_neg (by simp [digit_noletter hc]), if_pos hc, hs.1, hs.2, hn]
      · rw [List.cons_append, List.dropWhile_cons, hb]
        rfl
      · intro d hd e
        subst e
        have := List.all_eq_true.1 hall 59 hd
        revert this
        decide
  · have e : prT ⟨3, 0, l⟩ = l := rfl
    rw [e]
    rcases hl with rfl | rfl | ⟨c, rfl, hc⟩
    · refine ⟨?_, rfl, ?_⟩
      · show nextT (60 :: 60 :: rest) = _
        rw [nextT_cons, if_neg (by decide), if_neg (by decide)]
        have : signN (60 :: 60 :: rest) = 2 := by
          unfold signN
          rw [if_pos (Or.inl (by simp [Lib.hasPrefix, List.isPrefixOf]))]
        rw [this]
        rfl
      · intro d hd; simp at hd; subst hd; decide
    · refine ⟨?_, rfl, ?_⟩
      · show nextT (62 :: 62 :: rest) = _
        rw [nextT_cons, if_neg (by decide), if_neg (by decide)]
        have : signN (62 :: 62 :: rest) = 2 := by
          unfold signN
          rw [if_pos (Or.inr (by simp [Lib.hasPrefix, List.isPrefixOf]))]
        rw [this]
        rfl
      · intro d hd; simp at hd; subst hd; decide
    · obtain ⟨h1, h2, h3, h4, h5, h6⟩ := sign_nodigit hc
      refine ⟨?_, ?_, ?_⟩
      · show nextT (c :: rest) = _
        rw [nextT_cons, if_neg (by simp [h1]), if_neg (by simp [h2])]
        have : signN (c :: rest) = 1 := by
          unfold signN
          rw [if_neg]
          · simp only [if_pos hc]
          · intro h
            rcases h with h | h
            · obtain ⟨r, e⟩ := hasPrefix_two h
              injection e with e1 _
              exact h4 e1
            · obtain ⟨r, e⟩ := hasPrefix_two h
              injection e with e1 _
              exact h5 e1
        rw [this]
        rfl
      · show (c :: rest).dropWhile (pb blankB) = _
        rw [List.dropWhile_cons, h3]
        rfl
      · intro d hd; simp at hd; subst hd; exact h6

end Go.Proofs.YtjmjhbdlbmnllaaGreatDoor.Sc

namespace Go.Proofs.YtjmjhbdlbmnllaaGreatDoor.Sc
open Go.RowKit

theorem span_at {p : UInt8 → Bool} : ∀ (l rest : List UInt8), l.all p = true → (∀ c r, rest = c :: r → p c = false) → (l ++ rest).takeWhile p = l ∧ (l ++ rest).dropWhile p = rest
  | [], rest, _, hs => by
    cases rest with
    | nil => exact ⟨rfl, rfl⟩
    | cons c r => simp [hs c r rfl]
  | c :: l, rest, ha, hs => by
    simp only [List.all_cons, Bool.and_eq_true] at ha
    have ih := span_at l rest ha.2 hs
    simp [ha.1, ih.1, ih.2]
/-- Nothing that goes on with a word, or a number. -/
def stopB : List UInt8 → Bool
  | [] => true
  | c :: _ => !pb wordB c && !pb numB c
theorem stop_word {rest : List UInt8} (h : stopB rest = true) : ∀ c r, rest = c :: r → pb wordB c = false := by
  rintro c r rfl
  simp [stopB] at h
  exact h.1
theorem stop_num {rest : List UInt8} (h : stopB rest = true) : ∀ c r, rest = c :: r → pb numB c = false := by
  rintro c r rfl
  simp [stopB] at h
  exact h.2

/-- A token, and whether a blank stands ahead of it. -/
def glue : List (Bool × Tok) → List UInt8
  | [] => []
  | (true, t) :: r => 32 :: (prT t ++ glue r)
  | (false, t) :: r => prT t ++ glue r
/-- A word, a number, or a sign of one byte. -/
def Good1 (t : Tok) : Prop :=
  (∃ c r, t = ⟨1, 0, c :: r⟩ ∧ pb letterB c = true ∧ r.all (pb wordB) = true) ∨
  (∃ u : Nat, t = ⟨2, u, []⟩ ∧ u ≤ 4294967295) ∨ (∃ c, t = ⟨3, 0, [c]⟩ ∧ pb signB c = true)
theorem Good1.good {t : Tok} (h : Good1 t) : Good t := by
  rcases h with h | h | ⟨c, rfl, hc⟩
  · exact .inl h
  · exact .inr (.inl h)
  · exact .inr (.inr ⟨[c], rfl, .inr (.inr ⟨c, rfl, hc⟩)⟩)
theorem next_gen {t : Tok} (ht : Good1 t) {rest : List UInt8} (he : t.kind = 3 ∨ stopB rest = true) : nextT (prT t ++ rest) = .tok t rest ∧ (prT t ++ rest).dropWhile (pb blankB) = prT t ++ rest := by
  rcases ht with ⟨c, r, rfl, hc, hr⟩ | ⟨u, rfl, hu⟩ | ⟨c, rfl, hc⟩
  · have he' : stopB rest = true := by rcases he with h | h; exact absurd h (by simp); exact h
    have hall : (c :: r).all (pb wordB) = true := by simp [letter_word hc, hr]
    have hs := span_at (p := pb wordB) (c :: r) rest hall (stop_word he')
    have e : prT ⟨1, 0, c :: r⟩ = c :: r := rfl
    rw [e]
    have hb : pb blankB c = false := by
      have := all8 (fun c => !pb letterB c || !pb blankB c) (by decide +kernel) c
      simp [hc] at this
      exact this
    refine ⟨?_, ?_⟩
    · rw [List.cons_append] at hs ⊢
      rw [nextT_cons, if_pos hc, hs.1, hs.2]
    · rw [List.cons_append, List.dropWhile_cons, hb]
      rfl
  · have he' : stopB rest = true := by rcases he with h | h; exact absurd h (by simp); exact h
    have hall := decDigits_all u
    have hne := decDigits_ne u
    have e : prT ⟨2, u, []⟩ = Lib.decDigits u := by
      show Lib.itoa (u : Int) = _
      exact Lib.itoa_nonneg u
    rw [e]
    have hn := num_numL hu
    have hs := span_at (p := pb numB) (Lib.decDigits u) rest (by
      rw [List.all_eq_true] at hall ⊢
      intro x hx
      exact digit_num (hall x hx)) (stop_num he')
    cases hd : Lib.decDigits u with
    | nil => exact absurd hd hne
    | cons c r =>
      rw [hd] at hall hs hn
      have hc : pb digitB c = true := by simp only [List.all_cons, Bool.and_eq_true] at hall; exact hall.1
      have hb : pb blankB c = false := by
        have := all8 (fun c => !pb digitB c || !pb blankB c) (by decide +kernel) c
        simp [hc] at this
        exact this
      refine ⟨?_, ?_⟩
      · rw [List.cons_append] at hs ⊢
        rw [nextT_cons, if_neg (by simp [digit_noletter hc]), if_pos hc, hs.1, hs.2, hn]
      · rw [List.cons_append, List.dropWhile_cons, hb]
        rfl
  · obtain ⟨h1, h2, h3, h4, h5, h6⟩ := sign_nodigit hc
    have e : prT ⟨3, 0, [c]⟩ = [c] := rfl
    rw [e]
    refine ⟨?_, ?_⟩
    · show nextT (c :: rest) = _
      rw [nextT_cons, if_neg (by simp [h1]), if_neg (by simp [h2])]
      have : signN (c :: rest) = 1 := by
        unfold signN
        rw [if_neg]
        · simp only [if_pos hc]
        · intro h
          rcases h with h | h
          · obtain ⟨r, e⟩ := hasPrefix_two h
            injection e with e1 _
            exact h4 e1
          · obtain ⟨r, e⟩ := hasPrefix_two h
            injection e with e1 _
            exact h5 e1
      rw [this]
      rfl
    · show (c :: rest).dropWhile (pb blankB) = _
      rw [List.dropWhile_cons, h3]
      rfl

/-- Each token ends where it should. -/
def Fit : List (Bool × Tok) → Prop
  | [] => True
  | (_, t) :: r => Good1 t ∧ (t.kind = 3 ∨ stopB (glue r) = true) ∧ Fit r
theorem toks_glue : ∀ l : List (Bool × Tok), Fit l → toks (glue l) = some (l.map (·.2))
  | [], _ => rfl
  | (g, t) :: r, h => by
    obtain ⟨h1, h2, h3⟩ := h
    have ih := toks_glue r h3
    have hn := next_gen h1 h2
    have hd : (glue ((g, t) :: r)).dropWhile (pb blankB) = prT t ++ glue r := by
      cases g with
      | true =>
        show (32 :: (prT t ++ glue r)).dropWhile (pb blankB) = _
        rw [List.dropWhile_cons, if_pos (by decide)]
        exact hn.2
      | false => exact hn.2
    rw [toks_tok (by rw [hd]; exact hn.1), ih]
    rfl
theorem pr_chars {t : Tok} (h : Good1 t) : ∀ c, c ∈ prT t → c ≠ 59 ∧ c ≠ 10 := by
  intro c hc
  refine ⟨(next_pr h.good (rest := []) (.inl rfl)).2.2 c hc, ?_⟩
  rintro rfl
  rcases h with ⟨d, r, rfl, hd, hr⟩ | ⟨u, rfl, hu⟩ | ⟨d, rfl, hd⟩
  · have e : prT ⟨1, 0, d :: r⟩ = d :: r := rfl
    rw [e] at hc
    have hall : (d :: r).all (pb wordB) = true := by simp [letter_word hd, hr]
    have := List.all_eq_true.1 hall 10 hc
    revert this
    decide
  · have e : prT ⟨2, u, []⟩ = Lib.decDigits u := by
      show Lib.itoa (u : Int) = _
      exact Lib.itoa_nonneg u
    rw [e] at hc
    have := List.all_eq_true.1 (decDigits_all u) 10 hc
    revert this
    decide
  · have e : prT ⟨3, 0, [d]⟩ = [d] := rfl
    rw [e] at hc
    obtain rfl := List.mem_singleton.1 hc
    revert hd
    decide
theorem glue_chars : ∀ l : List (Bool × Tok), Fit l → ∀ c, c ∈ glue l → c ≠ 59 ∧ c ≠ 10
  | [], _, c, hc => by simp [glue] at hc
  | (g, t) :: r, h, c, hc => by
    obtain ⟨h1, h2, h3⟩ := h
    have key : c ∈ prT t ++ glue r → c ≠ 59 ∧ c ≠ 10 := by
      intro hc
      rcases List.mem_append.1 hc with hc | hc
      · exact pr_chars h1 c hc
      · exact glue_chars r h3 c hc
    cases g with
    | true =>
      rcases List.mem_cons.1 hc with rfl | hc
      · decide
      · exact key hc
    | false => exact key hc
theorem code_all : ∀ l : List UInt8, (∀ c, c ∈ l → c ≠ 59) → code l = l
  | [], _ => rfl
  | c :: r, h => by
    have ih := code_all r fun d hd => h d (by simp [hd])
    unfold code at ih ⊢
    rw [List.takeWhile_cons, if_pos (by simp [h c (by simp)]), ih]
/-- A line that is so written. -/
theorem glue_line {l : List (Bool × Tok)} (h : Fit l) (hl : (glue l).length ≤ 80) : lineErr (glue l) = 0 ∧ lineList (glue l) = l.map (·.2) ∧ ∀ c, c ∈ glue l → c ≠ 10 := by
  have hc := glue_chars l h
  obtain ⟨e1, e2⟩ := line_done (done := l.map (·.2)) hl (by rw [code_all _ fun c hx => (hc c hx).1]; exact toks_glue l h)
  exact ⟨e1, e2, fun c hx => (hc c hx).2⟩

end Go.Proofs.YtjmjhbdlbmnllaaGreatDoor.Sc
