/- Contracts of the small functions of package scan that look at one byte. What a line's tokens are, as functions of lists of bytes; no program in this text but the form of cells. Contracts of the small functions of package scan: bytes' classes by name, span, the closures cut and take. -/
import Derived.Test.YtagkmgdjkailkaaGreatDoorRows
import Derived.WalkKit
import Derived.WalkSpells
import Derived.WalkLawsBesides
import Derived.Deep.RegionHeld3
import Derived.BigQuiet
import Derived.Lib.ParseIntB
import Derived.Lib.Strings
import Derived.Lib.Split
import Derived.Test.YtagkmgdjkailkaaGreatDoorShelf
import Derived.Laws.EntriesVeiled
import Derived.Maps.AppendAt
namespace Go.Proofs.YtagkmgdjkailkaaGreatDoor.Sc
open Go.RowKit

theorem ret_bool {a b : Bool} (h : a = b) : Ending.returned (.bool a) = .returned (.bool b) := by rw [h]
theorem ret_int {k : IntKind} {a b : Int} (h : a = b) : Ending.returned (.int k a) = .returned (.int k b) := by rw [h]

/-- What bytes are. -/
def letterB (c : Int) : Bool := decide (97 ≤ c ∧ c ≤ 122 ∨ 65 ≤ c ∧ c ≤ 90 ∨ c = 95 ∨ c = 46)
def digitB (c : Int) : Bool := decide (48 ≤ c ∧ c ≤ 57)
def blankB (c : Int) : Bool := decide (c = 32 ∨ c = 9 ∨ c = 13)
def wordB (c : Int) : Bool := letterB c || digitB c || decide (c = 47)
def numB (c : Int) : Bool := digitB c || letterB c && decide (c ≠ 46)
def nameB (c : Int) : Bool := decide (c ≠ 46) && (letterB c || digitB c)

theorem digit_any (c : Int) (w : World) :
    Calls Tryz.prog 68 #[.int .u8 c] w fun e w' => e = .returned (.bool (digitB c)) ∧ w' = w := by
  by_cases h1 : 48 ≤ c
  all_goals by_cases h2 : c ≤ 57
  all_goals
    go_enter Tryz.func68, Tryz.ntmps68
    go_wp2
    go_ret
    exact ⟨ret_bool (by simp [digitB]; omega), rfl⟩

theorem letter_any (c : Int) (w : World) :
    Calls Tryz.prog 66 #[.int .u8 c] w fun e w' => e = .returned (.bool (letterB c)) ∧ w' = w := by
  by_cases h1 : 97 ≤ c
  all_goals by_cases h2 : c ≤ 122
  all_goals by_cases h3 : 65 ≤ c
  all_goals by_cases h4 : c ≤ 90
  all_goals by_cases h5 : c = 95
  all_goals by_cases h6 : c = 46
  all_goals first
    | (exfalso; omega)
    | (have e5 : (c == 95) = decide (c = 95) := by rfl
       have e6 : (c == 46) = decide (c = 46) := by rfl
       simp only [h5, h6] at e5 e6
       go_enter Tryz.func66, Tryz.ntmps66
       go_wp2
       go_ret
       exact ⟨ret_bool (by first | (simp [letterB]; omega) | simp [letterB]), rfl⟩)

end Go.Proofs.YtagkmgdjkailkaaGreatDoor.Sc

namespace Go.Proofs.YtagkmgdjkailkaaGreatDoor.Sc
open Go.RowKit

structure Tok where
  kind : Int
  n : Int
  text : List UInt8

def Tok.cells (t : Tok) : List Value := [.int .i64 t.kind, .int .i64 t.n, .string ⟨t.text.toArray⟩]
def tcells (ts : List Tok) : List Value := ts.flatMap Tok.cells

def pb (p : Int → Bool) (c : UInt8) : Bool := p (c.toNat : Int)

def signB (c : Int) : Bool := decide (c = 58 ∨ c = 44 ∨ c = 35 ∨ c = 64 ∨ c = 40 ∨ c = 41 ∨ c = 43 ∨ c = 45 ∨ c = 42 ∨ c = 38 ∨ c = 124 ∨ c = 126 ∨ c = 61)

/-- How many bytes the sign has. -/
def signN (l : List UInt8) : Nat :=
  if Lib.hasPrefix l [60, 60] = true ∨ Lib.hasPrefix l [62, 62] = true then 2
  else match l with
    | [] => 0
    | c :: _ => if pb signB c = true then 1 else 0

def digV (base c : Nat) : Option Nat :=
  if 48 ≤ c ∧ c ≤ 57 then some (c - 48)
  else if base = 16 ∧ 97 ≤ c ∧ c ≤ 102 then some (c - 87)
  else if base = 16 ∧ 65 ≤ c ∧ c ≤ 70 then some (c - 55)
  else none

def parseN (base : Nat) : Nat → List UInt8 → Option Nat
  | n, [] => some n
  | n, c :: r => match digV base c.toNat with
    | none => none
    | some d => if n * base + d ≤ 4294967295 then parseN base (n * base + d) r else none

def parseU (base : Nat) (l : List UInt8) : Option Nat := if l = [] then none else parseN base 0 l

def numL (l : List UInt8) : Option Nat := if Lib.hasPrefix l [48, 120] = true then parseU 16 (l.drop 2) else parseU 10 l

inductive Nxt where
  | fin
  | bad
  | tok (t : Tok) (r : List UInt8)

/-- The token at the beginning, where no blank is. -/
def nextT (l : List UInt8) : Nxt :=
  match l with
  | [] => .fin
  | c :: _ =>
    if pb letterB c = true then .tok ⟨1, 0, l.takeWhile (pb wordB)⟩ (l.dropWhile (pb wordB))
    else if pb digitB c = true then
      match numL (l.takeWhile (pb numB)) with
      | none => .bad
      | some n => .tok ⟨2, n, []⟩ (l.dropWhile (pb numB))
    else if signN l = 0 then .bad
    else .tok ⟨3, 0, l.take (signN l)⟩ (l.drop (signN l))

def toksF : Nat → List UInt8 → Option (List Tok)
  | 0, _ => none
  | f + 1, l => match nextT (l.dropWhile (pb blankB)) with
    | .fin => some []
    | .bad => none
    | .tok t r => (toksF f r).map (t :: ·)

def toks (l : List UInt8) : Option (List Tok) := toksF (l.length + 1) l

theorem dropWhile_len {p : UInt8 → Bool} : ∀ l : List UInt8, (l.dropWhile p).length ≤ l.length
  | [] => by simp
  | c :: r => by
    have := dropWhile_len (p := p) r
    simp only [List.dropWhile_cons]
    split <;> simp <;> omega

theorem nextT_len {l r : List UInt8} {t : Tok} (h : nextT l = .tok t r) : r.length < l.length := by
  unfold nextT at h
  split at h
  · cases h
  · rename_i c tl
    split at h
    · rename_i hc
      injection h with h1 h2
      subst h2
      have hw : pb wordB c = true := by simp [pb, wordB] at hc ⊢; simp [hc]
      rw [List.dropWhile_cons, if_pos hw]
      have := dropWhile_len (p := pb wordB) tl
      simp; omega
    · split at h
      · rename_i hc
        split at h
        · cases h
        · injection h with h1 h2
          subst h2
          have hw : pb numB c = true := by simp [pb, numB] at hc ⊢; simp [hc]
          rw [List.dropWhile_cons, if_pos hw]
          have := dropWhile_len (p := pb numB) tl
          simp; omega
      · split at h
        · cases h
        · injection h with h1 h2
          subst h2
          simp; omega

theorem toksF_more : ∀ (f g : Nat) (l : List UInt8), l.length < f → l.length < g → toksF f l = toksF g l
  | 0, _, _, h, _ => by omega
  | _, 0, _, _, h => by omega
  | f + 1, g + 1, l, hf, hg => by
    unfold toksF
    have hd := dropWhile_len (p := pb blankB) l
    split
    · rfl
    · rfl
    · rename_i t r hn
      have := nextT_len hn
      rw [toksF_more f g r (by omega) (by omega)]

theorem toks_eq (l : List UInt8) : toks l = match nextT (l.dropWhile (pb blankB)) with
    | .fin => some []
    | .bad => none
    | .tok t r => (toks r).map (t :: ·) := by
  unfold toks
  rw [toksF]
  have hd := dropWhile_len (p := pb blankB) l
  split
  · rfl
  · rfl
  · rename_i t r hn
    have := nextT_len hn
    rw [toksF_more l.length (r.length + 1) r (by omega) (by omega)]

theorem toks_fin {l : List UInt8} (h : nextT (l.dropWhile (pb blankB)) = .fin) : toks l = some [] := by rw [toks_eq, h]
theorem toks_bad {l : List UInt8} (h : nextT (l.dropWhile (pb blankB)) = .bad) : toks l = none := by rw [toks_eq, h]
theorem toks_tok {l r : List UInt8} {t : Tok} (h : nextT (l.dropWhile (pb blankB)) = .tok t r) : toks l = (toks r).map (t :: ·) := by rw [toks_eq, h]

/-- What stands ahead of a remark. -/
def code (l : List UInt8) : List UInt8 := l.takeWhile (· != 59)

/-- What a line's tokens are. -/
def lineToks (l : List UInt8) : Option (List Tok) := if 80 < l.length then none else toks (code l)
def lineErr (l : List UInt8) : Int := if 80 < l.length then 4 else if (toks (code l)).isSome then 0 else 2
def lineList (l : List UInt8) : List Tok := (lineToks l).getD []

theorem toks_count : ∀ (f : Nat) (l : List UInt8) (ts : List Tok), toksF f l = some ts → ts.length ≤ l.length
  | 0, _, _, h => by simp [toksF] at h
  | f + 1, l, ts, h => by
    unfold toksF at h
    have hd := dropWhile_len (p := pb blankB) l
    split at h
    · simp at h; subst h; simp
    · cases h
    · rename_i t r hn
      have := nextT_len hn
      obtain ⟨ts', h1, rfl⟩ := Option.map_eq_some_iff.1 h
      have := toks_count f r ts' h1
      simp; omega

end Go.Proofs.YtagkmgdjkailkaaGreatDoor.Sc

namespace Go.Proofs.YtagkmgdjkailkaaGreatDoor.Sc
open Go.RowKit

theorem index9 (s : ByteArray) (k : Nat) (i : Int) (hi : i = (k : Int)) (hk : k < s.size) (w : World) : (Instr.index 9 (.string s) (.int .i64 i)).run Tryz.prog w = .ok (.int .u8 (s[k].toNat : Int)) w := by
  subst hi
  simp [Instr.index, run_underlying Tryz.underlying9, asIntOf, hk]

def Enters1 (f : FuncId) : Prop := ∀ args w, (callFunc f args).run Tryz.prog w = .ok (.enter f args) w
def Asks (f : FuncId) (p : Int → Bool) : Prop := ∀ (c : UInt8) (w : World), Calls Tryz.prog f #[.int .u8 (c.toNat : Int)] w fun e w' => e = .returned (.bool (p c.toNat)) ∧ w' = w

def spanL (p : Int → Bool) (l : List UInt8) : Nat := (l.takeWhile (pb p)).length

theorem spanL_le (p : Int → Bool) : ∀ l : List UInt8, spanL p l ≤ l.length
  | [] => by simp [spanL]
  | c :: r => by
    have := spanL_le p r
    simp only [spanL, List.takeWhile_cons] at this ⊢
    split <;> simp <;> omega

theorem drop_at {s : ByteArray} {k : Nat} (hk : k < s.size) : s.data.toList.drop k = s[k] :: s.data.toList.drop (k + 1) := by
  have h : k < s.data.toList.length := by simpa using hk
  rw [List.drop_eq_getElem_cons h]
  rfl

theorem spanL_yes {p : Int → Bool} {s : ByteArray} {k : Nat} (hk : k < s.size) (hp : p s[k].toNat = true) (h : spanL p s.data.toList = k + spanL p (s.data.toList.drop k)) :
    spanL p s.data.toList = (k + 1) + spanL p (s.data.toList.drop (k + 1)) := by
  rw [h, drop_at hk]
  have hp' : pb p s[k] = true := hp
  simp only [spanL, List.takeWhile_cons, hp', if_true, List.length_cons]
  omega

theorem spanL_no {p : Int → Bool} {s : ByteArray} {k : Nat} (hk : k < s.size) (hp : p s[k].toNat = false) (h : spanL p s.data.toList = k + spanL p (s.data.toList.drop k)) :
    spanL p s.data.toList = k := by
  rw [h, drop_at hk]
  have hp' : pb p s[k] = false := hp
  simp [spanL, hp']

theorem spanL_end {p : Int → Bool} {s : ByteArray} {k : Nat} (hk : s.size ≤ k) (h : spanL p s.data.toList = k + spanL p (s.data.toList.drop k)) : spanL p s.data.toList = k := by
  rw [h, List.drop_eq_nil_of_le (by simpa using hk)]
  simp [spanL]

theorem span_any (s : ByteArray) (f : FuncId) (p : Int → Bool) (w : World) (hs : s.size ≤ 9223372036854775000) (he : Enters1 f) (hp : Asks f p) :
    Calls Tryz.prog 63 #[.string s, .func (.func f) #[] #[]] w fun e w' => e = .returned (.int .i64 (spanL p s.data.toList)) ∧ w' = w := by
  unfold Enters1 at he
  go_enter Tryz.func63, Tryz.ntmps63
  go_wp2
  go_loop [5] (fun i => ∃ k : Nat, k ≤ s.size ∧ i = .int .i64 k ∧ Hid (spanL p s.data.toList = k + spanL p (s.data.toList.drop k))) (fun i => s.size - (intOf i).toNat)
  case atStart => exact ⟨0, Nat.zero_le _, rfl, by simp [Hid]⟩
  case round =>
    obtain ⟨k, hk, rfl, HS⟩ := hrel
    by_cases hlt : k < s.size
    · have hk1 : (k : Int) < s.size := by omega
      have hidx := index9 s k k rfl hlt
      cases hb : p (s[k].toNat : Int)
      · go_wp2_with fail
        refine (hp _ _).mono ?_
        rintro e w1 ⟨rfl, rfl⟩
        simp only [hb]
        go_wp2
        go_ret
        exact ⟨ret_int (by rw [spanL_no hlt hb HS.out]), rfl⟩
      · go_wp2_with fail
        refine (hp _ _).mono ?_
        rintro e w1 ⟨rfl, rfl⟩
        simp only [hb]
        go_wp2
        exact ⟨⟨k + 1, by omega, by go_num, spanL_yes hlt hb HS.out⟩, by simp [intOf]; omega⟩
    · have hk1 : ¬ (k : Int) < s.size := by omega
      go_wp2
      go_ret
      exact ⟨ret_int (by rw [spanL_end (by omega) HS.out]), rfl⟩

theorem cut_any (s : ByteArray) (n : Nat) (B : Nat) (w : World) (hn : n ≤ s.size) (hc : w.cell? ⟨B, 0, none⟩ = some (.string s)) (hf : w.frozen? ⟨B, 0, none⟩ = false) :
    Calls Tryz.prog 61 #[.int .i64 n, .pointer (some ⟨B, 0, none⟩)] w fun e w' => e = .returned (.string (s.extract 0 n)) ∧ w' = w.setCell ⟨B, 0, none⟩ (.string (s.extract n s.size)) := by
  go_enter Tryz.func61, Tryz.ntmps61
  go_wp2
  go_ret
  exact ⟨rfl, rfl⟩

theorem inWord_any (c : UInt8) (w : World) :
    Calls Tryz.prog 67 #[.int .u8 (c.toNat : Int)] w fun e w' => e = .returned (.bool (wordB c.toNat)) ∧ w' = w := by
  cases h1 : letterB c.toNat
  · cases h2 : digitB c.toNat
    · go_enter Tryz.func67, Tryz.ntmps67
      go_wp2_with (first | (go_at_call 66; refine (letter_any _ _).mono ?_; rintro e w' ⟨rfl, rfl⟩; simp only [h1]) | (go_at_call 68; refine (digit_any _ _).mono ?_; rintro e w' ⟨rfl, rfl⟩; simp only [h2]))
      go_ret
      exact ⟨ret_bool (by simp [wordB, h1, h2]; rfl), rfl⟩
    · go_enter Tryz.func67, Tryz.ntmps67
      go_wp2_with (first | (go_at_call 66; refine (letter_any _ _).mono ?_; rintro e w' ⟨rfl, rfl⟩; simp only [h1]) | (go_at_call 68; refine (digit_any _ _).mono ?_; rintro e w' ⟨rfl, rfl⟩; simp only [h2]))
      go_ret
      exact ⟨ret_bool (by simp [wordB, h1, h2]), rfl⟩
  · go_enter Tryz.func67, Tryz.ntmps67
    go_wp2_with (go_at_call 66; refine (letter_any _ _).mono ?_; rintro e w' ⟨rfl, rfl⟩; simp only [h1])
    go_ret
    exact ⟨ret_bool (by simp [wordB, h1]), rfl⟩

end Go.Proofs.YtagkmgdjkailkaaGreatDoor.Sc
