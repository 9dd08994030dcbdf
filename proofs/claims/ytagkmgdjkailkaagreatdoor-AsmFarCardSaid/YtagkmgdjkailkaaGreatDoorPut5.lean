/- What a line's tokens are, as functions of lists of bytes; no program in this text but the form of cells. The tokens of a line, as the document's own Tokens comes to them: byte by byte, a remark and all. -/
import Derived.Test.YtagkmgdjkailkaaGreatDoorPut1
import Derived.Lib.ParseIntB
import Derived.Lib.Strings
import Derived.Lib.Split
namespace Go.Proofs.YtagkmgdjkailkaaGreatDoor.Sc
open Go.RowKit

structure Tok where
  kind : Int
  n : Int
  text : List UInt8

def Tok.cells (t : Tok) : List Value := [.int .i64 t.kind, .int .i64 t.n, .string ⟨t.text.toArray⟩]
def tcells (ts : List Tok) : List Value := ts.flatMap Tok.cells

def pb (p : Int → Bool) (c : UInt8) : Bool := p (c.toNat : Int)

def signB (c : Int) : Bool := decide (c = 58 ∨ c = 44 ∨ c = 35 ∨ c = 64 ∨ c = 40 ∨ c = 41 ∨ c = 43 ∨ c = 45 ∨ c = 42 ∨ c = 38 ∨ c = 124 ∨ c = 126 ∨ c = 61)

/-- How many bytes the sign has. -/
def signN (l : List UInt8) : Nat :=
  if Lib.hasPrefix l [60, 60] = true ∨ Lib.hasPrefix l [62, 62] = true then 2
  else match l with
    | [] => 0
    | c :: _ => if pb signB c = true then 1 else 0

def digV (base c : Nat) : Option Nat :=
  if 48 ≤ c ∧ c ≤ 57 then some (c - 48)
  else if base = 16 ∧ 97 ≤ c ∧ c ≤ 102 then some (c - 87)
  else if base = 16 ∧ 65 ≤ c ∧ c ≤ 70 then some (c - 55)
  else none

def parseN (base : Nat) : Nat → List UInt8 → Option Nat
  | n, [] => some n
  | n, c :: r => match digV base c.toNat with
    | none => none
    | some d => if n * base + d ≤ 4294967295 then parseN base (n * base + d) r else none

def parseU (base : Nat) (l : List UInt8) : Option Nat := if l = [] then none else parseN base 0 l

def numL (l : List UInt8) : Option Nat := if Lib.hasPrefix l [48, 120] = true then parseU 16 (l.drop 2) else parseU 10 l

inductive Nxt where
  | fin
  | bad
  | tok (t : Tok) (r : List UInt8)

/-- The token at the beginning, where no blank is. -/
def nextT (l : List UInt8) : Nxt :=
  match l with
  | [] => .fin
  | c :: _ =>
    if pb letterB c = true then .tok ⟨1, 0, l.takeWhile (pb wordB)⟩ (l.dropWhile (pb wordB))
    else if pb digitB c = true then
      match numL (l.takeWhile (pb numB)) with
      | none => .bad
      | some n => .tok ⟨2, n, []⟩ (l.dropWhile (pb numB))
    else if signN l = 0 then .bad
    else .tok ⟨3, 0, l.take (signN l)⟩ (l.drop (signN l))

def toksF : Nat → List UInt8 → Option (List Tok)
  | 0, _ => none
  | f + 1, l => match nextT (l.dropWhile (pb blankB)) with
    | .fin => some []
    | .bad => none
    | .tok t r => (toksF f r).map (t :: ·)

def toks (l : List UInt8) : Option (List Tok) := toksF (l.length + 1) l

theorem dropWhile_len {p : UInt8 → Bool} : ∀ l : List UInt8, (l.dropWhile p).length ≤ l.length
  | [] => by simp
  | c :: r => by
    have := dropWhile_len (p := p) r
    simp only [List.dropWhile_cons]
    split <;> simp <;> omega

theorem nextT_len {l r : List UInt8} {t : Tok} (h : nextT l = .tok t r) : r.length < l.length := by
  unfold nextT at h
  split at h
  · cases h
  · rename_i c tl
    split at h
    · rename_i hc
      injection h with h1 h2
      subst h2
      have hw : pb wordB c = true := by simp [pb, wordB] at hc ⊢; simp [hc]
      rw [List.dropWhile_cons, if_pos hw]
      have := dropWhile_len (p := pb wordB) tl
      simp; omega
    · split at h
      · rename_i hc
        split at h
        · cases h
        · injection h with h1 h2
          subst h2
          have hw : pb numB c = true := by simp [pb, numB] at hc ⊢; simp [hc]
          rw [List.dropWhile_cons, if_pos hw]
          have := dropWhile_len (p := pb numB) tl
          simp; omega
      · split at h
        · cases h
        · injection h with h1 h2
          subst h2
          simp; omega

theorem toksF_more : ∀ (f g : Nat) (l : List UInt8), l.length < f → l.length < g → toksF f l = toksF g l
  | 0, _, _, h, _ => by omega
  | _, 0, _, _, h => by omega
  | f + 1, g + 1, l, hf, hg => by
    unfold toksF
    have hd := dropWhile_len (p := pb blankB) l
    split
    · rfl
    · rfl
    · rename_i t r hn
      have := nextT_len hn
      rw [toksF_more f g r (by omega) (by omega)]

theorem toks_eq (l : List UInt8) : toks l = match nextT (l.dropWhile (pb blankB)) with
    | .fin => some []
    | .bad => none
    | .tok t r => (toks r).map (t :: ·) := by
  unfold toks
  rw [toksF]
  have hd := dropWhile_len (p := pb blankB) l
  split
  · rfl
  · rfl
  · rename_i t r hn
    have := nextT_len hn
    rw [toksF_more l.length (r.length + 1) r (by omega) (by omega)]

theorem toks_fin {l : List UInt8} (h : nextT (l.dropWhile (pb blankB)) = .fin) : toks l = some [] := by rw [toks_eq, h]
theorem toks_bad {l : List UInt8} (h : nextT (l.dropWhile (pb blankB)) = .bad) : toks l = none := by rw [toks_eq, h]
theorem toks_tok {l r : List UInt8} {t : Tok} (h : nextT (l.dropWhile (pb blankB)) = .tok t r) : toks l = (toks r).map (t :: ·) := by rw [toks_eq, h]

/-- What stands ahead of a remark. -/
def code (l : List UInt8) : List UInt8 := l.takeWhile (· != 59)

/-- What a line's tokens are. -/
def lineToks (l : List UInt8) : Option (List Tok) := if 80 < l.length then none else toks (code l)
def lineErr (l : List UInt8) : Int := if 80 < l.length then 4 else if (toks (code l)).isSome then 0 else 2
def lineList (l : List UInt8) : List Tok := (lineToks l).getD []

end Go.Proofs.YtagkmgdjkailkaaGreatDoor.Sc

namespace Go.Proofs.YtagkmgdjkailkaaGreatDoor.Sc
open Go.RowKit

theorem code_cons {c : UInt8} (r : List UInt8) (h : c ≠ 59) : code (c :: r) = c :: code r := by
  unfold code
  rw [List.takeWhile_cons, if_pos (by simpa using h)]
theorem code_rem (r : List UInt8) : code (59 :: r) = [] := by
  unfold code
  rw [List.takeWhile_cons, if_neg (by simp)]

theorem takeWhile_code {p : UInt8 → Bool} (hp : p 59 = false) : ∀ l : List UInt8, (code l).takeWhile p = l.takeWhile p
  | [] => rfl
  | c :: r => by
    by_cases h : c = 59
    · subst h; rw [code_rem, List.takeWhile_cons, hp]; rfl
    · rw [code_cons r h, List.takeWhile_cons, List.takeWhile_cons, takeWhile_code hp r]
theorem dropWhile_code {p : UInt8 → Bool} (hp : p 59 = false) : ∀ l : List UInt8, (code l).dropWhile p = code (l.dropWhile p)
  | [] => rfl
  | c :: r => by
    by_cases h : c = 59
    · subst h
      rw [code_rem, List.dropWhile_cons, hp]
      simp [code_rem]
    · rw [code_cons r h, List.dropWhile_cons, List.dropWhile_cons, dropWhile_code hp r]
      split
      · rfl
      · rw [code_cons r h]

theorem tk_nil : toks (code []) = some [] := toks_fin rfl
theorem tk_rem (r : List UInt8) : toks (code (59 :: r)) = some [] := by rw [code_rem]; exact toks_fin rfl

theorem ne59 {p : Int → Bool} (hp : p 59 = false) {c : UInt8} (h : p c.toNat = true) : c ≠ 59 := by
  rintro rfl
  have : p 59 = true := h
  rw [hp] at this
  cases this

theorem tk_blank {c : UInt8} (r : List UInt8) (h : blankB c.toNat = true) : toks (code (c :: r)) = toks (code r) := by
  rw [code_cons r (ne59 (by decide) h), toks_eq, toks_eq (code r)]
  have hp : pb blankB c = true := h
  rw [List.dropWhile_cons, if_pos hp]

theorem dropB {c : UInt8} (r : List UInt8) (h : blankB c.toNat = false) : (c :: r).dropWhile (pb blankB) = c :: r := by
  have hp : pb blankB c = false := h
  rw [List.dropWhile_cons, hp]
  rfl

theorem tk_word {c : UInt8} (r : List UInt8) (hb : blankB c.toNat = false) (h : letterB c.toNat = true) :
    toks (code (c :: r)) = (toks (code ((c :: r).dropWhile (pb wordB)))).map ((⟨1, 0, (c :: r).takeWhile (pb wordB)⟩ : Tok) :: ·) := by
  have h59 := ne59 (by decide) h
  rw [← dropWhile_code (by decide), ← takeWhile_code (by decide)]
  refine toks_tok ?_
  rw [code_cons r h59, dropB _ hb]
  unfold nextT
  have hp : pb letterB c = true := h
  simp only [hp, if_true]

theorem tk_num {c : UInt8} (r : List UInt8) (hb : blankB c.toNat = false) (hl : letterB c.toNat = false) (h : digitB c.toNat = true) {n : Nat} (hn : numL ((c :: r).takeWhile (pb numB)) = some n) :
    toks (code (c :: r)) = (toks (code ((c :: r).dropWhile (pb numB)))).map ((⟨2, n, []⟩ : Tok) :: ·) := by
  have h59 := ne59 (by decide) h
  rw [← dropWhile_code (by decide)]
  refine toks_tok ?_
  rw [← takeWhile_code (by decide), code_cons r h59] at hn
  rw [code_cons r h59, dropB _ hb]
  unfold nextT
  have hp : pb letterB c = false := hl
  have hq : pb digitB c = true := h
  simp [hp, hq, hn]

theorem tk_nonum {c : UInt8} (r : List UInt8) (hb : blankB c.toNat = false) (hl : letterB c.toNat = false) (h : digitB c.toNat = true) (hn : numL ((c :: r).takeWhile (pb numB)) = none) :
    toks (code (c :: r)) = none := by
  have h59 := ne59 (by decide) h
  refine toks_bad ?_
  rw [← takeWhile_code (by decide), code_cons r h59] at hn
  rw [code_cons r h59, dropB _ hb]
  unfold nextT
  have hp : pb letterB c = false := hl
  have hq : pb digitB c = true := h
  simp [hp, hq, hn]

theorem hasPrefix_pair (a : UInt8) (c : UInt8) : ∀ r : List UInt8, Lib.hasPrefix (c :: r) [a, a] = (c == a && r.head? == some a)
  | [] => by simp [Lib.hasPrefix, List.isPrefixOf]
  | d :: r => by
    simp only [Lib.hasPrefix, List.isPrefixOf, Bool.and_true, List.head?_cons]
    rw [Bool.beq_comm (a := a), Bool.beq_comm (a := a)]
    rfl

theorem hasPrefix_code {a c : UInt8} (r : List UInt8) (ha : a ≠ 59) : Lib.hasPrefix (c :: code r) [a, a] = Lib.hasPrefix (c :: r) [a, a] := by
  rw [hasPrefix_pair, hasPrefix_pair]
  cases r with
  | nil => rfl
  | cons d r =>
    by_cases h : d = 59
    · subst h
      rw [code_rem]
      have : ((59 : UInt8) == a) = false := by simpa using fun e => ha e.symm
      simp [this]
    · rw [code_cons r h]; rfl

theorem signN_code {c : UInt8} (r : List UInt8) : signN (c :: code r) = signN (c :: r) := by
  unfold signN
  rw [hasPrefix_code r (by decide), hasPrefix_code r (by decide)]

theorem drop_sign {c : UInt8} (r : List UInt8) (h : c ≠ 59) : (c :: code r).drop (signN (c :: r)) = code ((c :: r).drop (signN (c :: r))) := by
  unfold signN
  split
  · rename_i hh
    rw [hasPrefix_pair, hasPrefix_pair] at hh
    cases r with
    | nil => simp at hh
    | cons d r =>
      have hd : d ≠ 59 := by
        rintro rfl
        simp at hh
      rw [code_cons r hd]
      rfl
  · show (c :: code r).drop (if pb signB c = true then 1 else 0) = code ((c :: r).drop (if pb signB c = true then 1 else 0))
    split
    · rfl
    · rw [List.drop_zero, List.drop_zero, code_cons r h]
theorem take_sign {c : UInt8} (r : List UInt8) : (c :: code r).take (signN (c :: r)) = (c :: r).take (signN (c :: r)) := by
  unfold signN
  split
  · rename_i hh
    rw [hasPrefix_pair, hasPrefix_pair] at hh
    cases r with
    | nil => simp at hh
    | cons d r =>
      have hd : d ≠ 59 := by
        rintro rfl
        simp at hh
      rw [code_cons r hd]
      rfl
  · show (c :: code r).take (if pb signB c = true then 1 else 0) = (c :: r).take (if pb signB c = true then 1 else 0)
    split <;> rfl

theorem tk_nosign {c : UInt8} (r : List UInt8) (hb : blankB c.toNat = false) (hl : letterB c.toNat = false) (hd : digitB c.toNat = false) (h59 : c ≠ 59) (h : signN (c :: r) = 0) :
    toks (code (c :: r)) = none := by
  refine toks_bad ?_
  rw [code_cons r h59, dropB _ hb]
  unfold nextT
  have hp : pb letterB c = false := hl
  have hq : pb digitB c = false := hd
  simp [hp, hq, signN_code, h]

theorem tk_sign {c : UInt8} (r : List UInt8) (hb : blankB c.toNat = false) (hl : letterB c.toNat = false) (hd : digitB c.toNat = false) (h59 : c ≠ 59) (h : signN (c :: r) ≠ 0) :
    toks (code (c :: r)) = (toks (code ((c :: r).drop (signN (c :: r))))).map ((⟨3, 0, (c :: r).take (signN (c :: r))⟩ : Tok) :: ·) := by
  rw [← drop_sign r h59, ← take_sign r]
  refine toks_tok ?_
  rw [code_cons r h59, dropB _ hb]
  unfold nextT
  have hp : pb letterB c = false := hl
  have hq : pb digitB c = false := hd
  simp [hp, hq, signN_code, h]

end Go.Proofs.YtagkmgdjkailkaaGreatDoor.Sc
