/- The tokens of a line, as the document's own Tokens comes to them: byte by byte, a remark and all. -/
import Derived.Test.YtajeijhmlkbjgaaDoorSpec
namespace Go.Proofs.YtajeijhmlkbjgaaDoor
open Go.RowKit

theorem code_cons {c : UInt8} (r : List UInt8) (h : c ≠ 59) : code (c :: r) = c :: code r := by
  unfold code
  rw [List.takeWhile_cons, if_pos (by simpa using h)]
theorem code_rem (r : List UInt8) : code (59 :: r) = [] := by
  unfold code
  rw [List.takeWhile_cons, if_neg (by simp)]

theorem takeWhile_code {p : UInt8 → Bool} (hp : p 59 = false) : ∀ l : List UInt8, (code l).takeWhile p = l.takeWhile p
  | [] => rfl
  | c :: r => by
    by_cases h : c = 59
    · subst h; rw [code_rem, List.takeWhile_cons, hp]; rfl
    · rw [code_cons r h, List.takeWhile_cons, List.takeWhile_cons, takeWhile_code hp r]
theorem dropWhile_code {p : UInt8 → Bool} (hp : p 59 = false) : ∀ l : List UInt8, (code l).dropWhile p = code (l.dropWhile p)
  | [] => rfl
  | c :: r => by
    by_cases h : c = 59
    · subst h
      rw [code_rem, List.dropWhile_cons, hp]
      simp [code_rem]
    · rw [code_cons r h, List.dropWhile_cons, List.dropWhile_cons, dropWhile_code hp r]
      split
      · rfl
      · rw [code_cons r h]

theorem tk_nil : toks (code []) = some [] := toks_fin rfl
theorem tk_rem (r : List UInt8) : toks (code (59 :: r)) = some [] := by rw [code_rem]; exact toks_fin rfl

theorem ne59 {p : Int → Bool} (hp : p 59 = false) {c : UInt8} (h : p c.toNat = true) : c ≠ 59 := by
  rintro rfl
  have : p 59 = true := h
  rw [hp] at this
  cases this

theorem tk_blank {c : UInt8} (r : List UInt8) (h : blankB c.toNat = true) : toks (code (c :: r)) = toks (code r) := by
  rw [code_cons r (ne59 (by decide) h), toks_eq, toks_eq (code r)]
  have hp : pb blankB c = true := h
  rw [List.dropWhile_cons, if_pos hp]

theorem dropB {c : UInt8} (r : List UInt8) (h : blankB c.toNat = false) : (c :: r).dropWhile (pb blankB) = c :: r := by
  have hp : pb blankB c = false := h
  rw [List.dropWhile_cons, hp]
  rfl

theorem tk_word {c : UInt8} (r : List UInt8) (hb : blankB c.toNat = false) (h : letterB c.toNat = true) :
    toks (code (c :: r)) = (toks (code ((c :: r).dropWhile (pb wordB)))).map ((⟨1, 0, (c :: r).takeWhile (pb wordB)⟩ : Tok) :: ·) := by
  have h59 := ne59 (by decide) h
  rw [← dropWhile_code (by decide), ← takeWhile_code (by decide)]
  refine toks_tok ?_
  rw [code_cons r h59, dropB _ hb]
  unfold nextT
  have hp : pb letterB c = true := h
  simp only [hp, if_true]

theorem tk_num {c : UInt8} (r : List UInt8) (hb : blankB c.toNat = false) (hl : letterB c.toNat = false) (h : digitB c.toNat = true) {n : Nat} (hn : numL ((c :: r).takeWhile (pb numB)) = some n) :
    toks (code (c :: r)) = (toks (code ((c :: r).dropWhile (pb numB)))).map ((⟨2, n, []⟩ : Tok) :: ·) := by
  have h59 := ne59 (by decide) h
  rw [← dropWhile_code (by decide)]
  refine toks_tok ?_
  rw [← takeWhile_code (by decide), code_cons r h59] at hn
  rw [code_cons r h59, dropB _ hb]
  unfold nextT
  have hp : pb letterB c = false := hl
  have hq : pb digitB c = true := h
  simp [hp, hq, hn]

theorem tk_nonum {c : UInt8} (r : List UInt8) (hb : blankB c.toNat = false) (hl : letterB c.toNat = false) (h : digitB c.toNat = true) (hn : numL ((c :: r).takeWhile (pb numB)) = none) :
    toks (code (c :: r)) = none := by
  have h59 := ne59 (by decide) h
  refine toks_bad ?_
  rw [← takeWhile_code (by decide), code_cons r h59] at hn
  rw [code_cons r h59, dropB _ hb]
  unfold nextT
  have hp : pb letterB c = false := hl
  have hq : pb digitB c = true := h
  simp [hp, hq, hn]

theorem hasPrefix_two (a : UInt8) (c : UInt8) : ∀ r : List UInt8, Lib.hasPrefix (c :: r) [a, a] = (c == a && r.head? == some a)
  | [] => by simp [Lib.hasPrefix, List.isPrefixOf]
  | d :: r => by
    simp only [Lib.hasPrefix, List.isPrefixOf, Bool.and_true, List.head?_cons]
    rw [Bool.beq_comm (a := a), Bool.beq_comm (a := a)]
    rfl

theorem hasPrefix_code {a c : UInt8} (r : List UInt8) (ha : a ≠ 59) : Lib.hasPrefix (c :: code r) [a, a] = Lib.hasPrefix (c :: r) [a, a] := by
  rw [hasPrefix_two, hasPrefix_two]
  cases r with
  | nil => rfl
  | cons d r =>
    by_cases h : d = 59
    · subst h
      rw [code_rem]
      have : ((59 : UInt8) == a) = false := by simpa using fun e => ha e.symm
      simp [this]
    · rw [code_cons r h]; rfl

theorem signN_code {c : UInt8} (r : List UInt8) : signN (c :: code r) = signN (c :: r) := by
  unfold signN
  rw [hasPrefix_code r (by decide), hasPrefix_code r (by decide)]

theorem drop_sign {c : UInt8} (r : List UInt8) (h : c ≠ 59) : (c :: code r).drop (signN (c :: r)) = code ((c :: r).drop (signN (c :: r))) := by
  unfold signN
  split
  · rename_i hh
    rw [hasPrefix_two, hasPrefix_two] at hh
    cases r with
    | nil => simp at hh
    | cons d r =>
      have hd : d ≠ 59 := by
        rintro rfl
        simp at hh
      rw [code_cons r hd]
      rfl
  · show (c :: code r).drop (if pb signB c = true then 1 else 0) = code ((c :: r).drop (if pb signB c = true then 1 else 0))
    split
    · rfl
    · rw [List.drop_zero, List.drop_zero, code_cons r h]
theorem take_sign {c : UInt8} (r : List UInt8) : (c :: code r).take (signN (c :: r)) = (c :: r).take (signN (c :: r)) := by
  unfold signN
  split
  · rename_i hh
    rw [hasPrefix_two, hasPrefix_two] at hh
    cases r with
    | nil => simp at hh
    | cons d r =>
      have hd : d ≠ 59 := by
        rintro rfl
        simp at hh
      rw [code_cons r hd]
      rfl
  · show (c :: code r).take (if pb signB c = true then 1 else 0) = (c :: r).take (if pb signB c = true then 1 else 0)
    split <;> rfl

theorem tk_nosign {c : UInt8} (r : List UInt8) (hb : blankB c.toNat = false) (hl : letterB c.toNat = false) (hd : digitB c.toNat = false) (h59 : c ≠ 59) (h : signN (c :: r) = 0) :
    toks (code (c :: r)) = none := by
  refine toks_bad ?_
  rw [code_cons r h59, dropB _ hb]
  unfold nextT
  have hp : pb letterB c = false := hl
  have hq : pb digitB c = false := hd
  simp [hp, hq, signN_code, h]

theorem tk_sign {c : UInt8} (r : List UInt8) (hb : blankB c.toNat = false) (hl : letterB c.toNat = false) (hd : digitB c.toNat = false) (h59 : c ≠ 59) (h : signN (c :: r) ≠ 0) :
    toks (code (c :: r)) = (toks (code ((c :: r).drop (signN (c :: r))))).map ((⟨3, 0, (c :: r).take (signN (c :: r))⟩ : Tok) :: ·) := by
  rw [← drop_sign r h59, ← take_sign r]
  refine toks_tok ?_
  rw [code_cons r h59, dropB _ hb]
  unfold nextT
  have hp : pb letterB c = false := hl
  have hq : pb digitB c = false := hd
  simp [hp, hq, signN_code, h]

end Go.Proofs.YtajeijhmlkbjgaaDoor
