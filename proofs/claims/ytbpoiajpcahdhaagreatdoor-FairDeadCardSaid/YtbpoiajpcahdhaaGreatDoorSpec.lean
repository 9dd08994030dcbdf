/- What a line's tokens are, as functions of lists of bytes; no program in this text but the form of cells. -/
import Derived.Test.YtbpoiajpcahdhaaGreatDoorPut1
import Derived.Lib.ParseIntB
import Derived.Lib.Strings
import Derived.Lib.Split
namespace Go.Proofs.YtbpoiajpcahdhaaGreatDoor.Sc
open Go.RowKit

structure Tok where
  kind : Int
  n : Int
  text : List UInt8

def Tok.cells (t : Tok) : List Value := [.int .i64 t.kind, .int .i64 t.n, .string ⟨t.text.toArray⟩]
def tcells (ts : List Tok) : List Value := ts.flatMap Tok.cells

def pb (p : Int → Bool) (c : UInt8) : Bool := p (c.toNat : Int)

def signB (c : Int) : Bool := decide (c = 58 ∨ c = 44 ∨ c = 35 ∨ c = 64 ∨ c = 40 ∨ c = 41 ∨ c = 43 ∨ c = 45 ∨ c = 42 ∨ c = 38 ∨ c = 124 ∨ c = 126 ∨ c = 61)

/-- How many bytes the sign has. -/
def signN (l : List UInt8) : Nat :=
  if Lib.hasPrefix l [60, 60] = true ∨ Lib.hasPrefix l [62, 62] = true then 2
  else match l with
    | [] => 0
    | c :: _ => if pb signB c = true then 1 else 0

def digV (base c : Nat) : Option Nat :=
  if 48 ≤ c ∧ c ≤ 57 then some (c - 48)
  else if base = 16 ∧ 97 ≤ c ∧ c ≤ 102 then some (c - 87)
  else if base = 16 ∧ 65 ≤ c ∧ c ≤ 70 then some (c - 55)
  else none

def parseN (base : Nat) : Nat → List UInt8 → Option Nat
  | n, [] => some n
  | n, c :: r => match digV base c.toNat with
    | none => none
    | some d => if n * base + d ≤ 4294967295 then parseN base (n * base + d) r else none

def parseU (base : Nat) (l : List UInt8) : Option Nat := if l = [] then none else parseN base 0 l

def numL (l : List UInt8) : Option Nat := if Lib.hasPrefix l [48, 120] = true then parseU 16 (l.drop 2) else parseU 10 l

inductive Nxt where
  | fin
  | bad
  | tok (t : Tok) (r : List UInt8)

/-- The token at the beginning, where no blank is. -/
def nextT (l : List UInt8) : Nxt :=
  match l with
  | [] => .fin
  | c :: _ =>
    if pb letterB c = true then .tok ⟨1, 0, l.takeWhile (pb wordB)⟩ (l.dropWhile (pb wordB))
    else if pb digitB c = true then
      match numL (l.takeWhile (pb numB)) with
      | none => .bad
      | some n => .tok ⟨2, n, []⟩ (l.dropWhile (pb numB))
    else if signN l = 0 then .bad
    else .tok ⟨3, 0, l.take (signN l)⟩ (l.drop (signN l))

def toksF : Nat → List UInt8 → Option (List Tok)
  | 0, _ => none
  | f + 1, l => match nextT (l.dropWhile (pb blankB)) with
    | .fin => some []
    | .bad => none
    | .tok t r => (toksF f r).map (t :: ·)

def toks (l : List UInt8) : Option (List Tok) := toksF (l.length + 1) l

theorem dropWhile_len {p : UInt8 → Bool} : ∀ l : List UInt8, (l.dropWhile p).length ≤ l.length
  | [] => by simp
  | c :: r => by
    have := dropWhile_len (p := p) r
    simp only [List.dropWhile_cons]
    split <;> simp <;> omega

theorem nextT_len {l r : List UInt8} {t : Tok} (h : nextT l = .tok t r) : r.length < l.length := by
  unfold nextT at h
  split at h
  · cases h
  · rename_i c tl
    split at h
    · rename_i hc
      injection h with h1 h2
      subst h2
      have hw : pb wordB c = true := by simp [pb, wordB] at hc ⊢; simp [hc]
      rw [List.dropWhile_cons, if_pos hw]
      have := dropWhile_len (p := pb wordB) tl
      simp; omega
    · split at h
      · rename_i hc
        split at h
        · cases h
        · injection h with h1 h2
          subst h2
          have hw : pb numB c = true := by simp [pb, numB] at hc ⊢; simp [hc]
          rw [List.dropWhile_cons, if_pos hw]
          have := dropWhile_len (p := pb numB) tl
          simp; omega
      · split at h
        · cases h
        · injection h with h1 h2
          subst h2
          simp; omega

theorem toksF_more : ∀ (f g : Nat) (l : List UInt8), l.length < f → l.length < g → toksF f l = toksF g l
  | 0, _, _, h, _ => by omega
  | _, 0, _, _, h => by omega
  | f + 1, g + 1, l, hf, hg => by
    unfold toksF
    have hd := dropWhile_len (p := pb blankB) l
    split
    · rfl
    · rfl
    · rename_i t r hn
      have := nextT_len hn
      rw [toksF_more f g r (by omega) (by omega)]

theorem toks_eq (l : List UInt8) : toks l = match nextT (l.dropWhile (pb blankB)) with
    | .fin => some []
    | .bad => none
    | .tok t r => (toks r).map (t :: ·) := by
  unfold toks
  rw [toksF]
  have hd := dropWhile_len (p := pb blankB) l
  split
  · rfl
  · rfl
  · rename_i t r hn
    have := nextT_len hn
    rw [toksF_more l.length (r.length + 1) r (by omega) (by omega)]

theorem toks_fin {l : List UInt8} (h : nextT (l.dropWhile (pb blankB)) = .fin) : toks l = some [] := by rw [toks_eq, h]
theorem toks_bad {l : List UInt8} (h : nextT (l.dropWhile (pb blankB)) = .bad) : toks l = none := by rw [toks_eq, h]
theorem toks_tok {l r : List UInt8} {t : Tok} (h : nextT (l.dropWhile (pb blankB)) = .tok t r) : toks l = (toks r).map (t :: ·) := by rw [toks_eq, h]

/-- What stands ahead of a remark. -/
def code (l : List UInt8) : List UInt8 := l.takeWhile (· != 59)

/-- What a line's tokens are. -/
def lineToks (l : List UInt8) : Option (List Tok) := if 80 < l.length then none else toks (code l)
def lineErr (l : List UInt8) : Int := if 80 < l.length then 4 else if (toks (code l)).isSome then 0 else 2
def lineList (l : List UInt8) : List Tok := (lineToks l).getD []

end Go.Proofs.YtbpoiajpcahdhaaGreatDoor.Sc
