/- What is taken over from the texts of stage 2. What an expression is, how tokens are read as one, and what it comes to: functions of lists; no program in this text. Expressions, values and names' numbers in memory. Reading by layers: what is read of one strength out of what is read of the next stronger one; no program in this text. A place is a place, and so much more: what an expression comes to where a name is a place, and where it is a number. No program in this text. -/
import Derived.Test.YtgjmbjahgcndnaaGreatDoorRows
import Derived.WalkKit
import Derived.WalkSpells
import Derived.WalkLawsBesides
import Derived.Deep.RegionHeld3
import Derived.BigQuiet
import Derived.Lib.ParseIntB
import Derived.Lib.Strings
import Derived.Lib.Split
import Derived.Lib.Join
import Derived.Shelf.Abstract
import Derived.Laws.EntriesVeiled
import Derived.Maps.AppendAt
import Derived.Deep.DeepCutAuto
import Derived.Lib.ConvBytes
import Derived.Lib.ParseIntBMem
import Derived.Lib.AtoiErrMem
import Derived.Lib.Hide
import Derived.Laws.Strings3
import Derived.Laws.Closers25
import Derived.Laws.Closers25b
import Derived.BigCall
import Derived.BigGuard
import Derived.WalkSmall
import Derived.Lib.IndexBytes
import Derived.Lib.SmallJoins
import Derived.Laws.CopyOwn
import Derived.Deep.OwnRows
import Derived.Lib.ItoaMem
import Derived.Lib.AppendIntMem
import Derived.Lib.ItoaLen
import Derived.Laws.BytesArg
import Derived.Lib.SplitLaws
import Derived.Deep.AppendSrc
namespace Go.Proofs.YtgjmbjahgcndnaaGreatDoor.Xp
open Go.RowKit


theorem ret_bool {a b : Bool} (h : a = b) : Ending.returned (.bool a) = .returned (.bool b) := by rw [h]

theorem ret_int {k : IntKind} {a b : Int} (h : a = b) : Ending.returned (.int k a) = .returned (.int k b) := by rw [h]

/-- What bytes are. -/
def letterB (c : Int) : Bool := decide (97 ≤ c ∧ c ≤ 122 ∨ 65 ≤ c ∧ c ≤ 90 ∨ c = 95 ∨ c = 46)

def digitB (c : Int) : Bool := decide (48 ≤ c ∧ c ≤ 57)

def blankB (c : Int) : Bool := decide (c = 32 ∨ c = 9 ∨ c = 13)

def wordB (c : Int) : Bool := letterB c || digitB c || decide (c = 47)

def numB (c : Int) : Bool := digitB c || letterB c && decide (c ≠ 46)

def nameB (c : Int) : Bool := decide (c ≠ 46) && (letterB c || digitB c)

theorem digit_any (c : Int) (w : World) :
    Calls Tryz.prog 99 #[.int .u8 c] w fun e w' => e = .returned (.bool (digitB c)) ∧ w' = w := by
  by_cases h1 : 48 ≤ c
  all_goals by_cases h2 : c ≤ 57
  all_goals
    go_enter Tryz.func99, Tryz.ntmps99
    go_wp2
    go_ret
    exact ⟨ret_bool (by simp [digitB]; omega), rfl⟩

theorem letter_any (c : Int) (w : World) :
    Calls Tryz.prog 102 #[.int .u8 c] w fun e w' => e = .returned (.bool (letterB c)) ∧ w' = w := by
  by_cases h1 : 97 ≤ c
  all_goals by_cases h2 : c ≤ 122
  all_goals by_cases h3 : 65 ≤ c
  all_goals by_cases h4 : c ≤ 90
  all_goals by_cases h5 : c = 95
  all_goals by_cases h6 : c = 46
  all_goals first
    | (exfalso; omega)
    | (have e5 : (c == 95) = decide (c = 95) := by rfl
       have e6 : (c == 46) = decide (c = 46) := by rfl
       simp only [h5, h6] at e5 e6
       go_enter Tryz.func102, Tryz.ntmps102
       go_wp2
       go_ret
       exact ⟨ret_bool (by first | (simp [letterB]; omega) | simp [letterB]), rfl⟩)


structure Tok where
  kind : Int
  n : Int
  text : List UInt8

def Tok.cells (t : Tok) : List Value := [.int .i64 t.kind, .int .i64 t.n, .string ⟨t.text.toArray⟩]

def tcells (ts : List Tok) : List Value := ts.flatMap Tok.cells

def pb (p : Int → Bool) (c : UInt8) : Bool := p (c.toNat : Int)

def signB (c : Int) : Bool := decide (c = 58 ∨ c = 44 ∨ c = 35 ∨ c = 64 ∨ c = 40 ∨ c = 41 ∨ c = 43 ∨ c = 45 ∨ c = 42 ∨ c = 38 ∨ c = 124 ∨ c = 126 ∨ c = 61)

/-- How many bytes the sign has. -/
def signN (l : List UInt8) : Nat :=
  if Lib.hasPrefix l [60, 60] = true ∨ Lib.hasPrefix l [62, 62] = true then 2
  else match l with
    | [] => 0
    | c :: _ => if pb signB c = true then 1 else 0

def digV (base c : Nat) : Option Nat :=
  if 48 ≤ c ∧ c ≤ 57 then some (c - 48)
  else if base = 16 ∧ 97 ≤ c ∧ c ≤ 102 then some (c - 87)
  else if base = 16 ∧ 65 ≤ c ∧ c ≤ 70 then some (c - 55)
  else none

def parseN (base : Nat) : Nat → List UInt8 → Option Nat
  | n, [] => some n
  | n, c :: r => match digV base c.toNat with
    | none => none
    | some d => if n * base + d ≤ 4294967295 then parseN base (n * base + d) r else none

def parseU (base : Nat) (l : List UInt8) : Option Nat := if l = [] then none else parseN base 0 l

def numL (l : List UInt8) : Option Nat := if Lib.hasPrefix l [48, 120] = true then parseU 16 (l.drop 2) else parseU 10 l

inductive Nxt where
  | fin
  | bad
  | tok (t : Tok) (r : List UInt8)

/-- The token at the beginning, where no blank is. -/
def nextT (l : List UInt8) : Nxt :=
  match l with
  | [] => .fin
  | c :: _ =>
    if pb letterB c = true then .tok ⟨1, 0, l.takeWhile (pb wordB)⟩ (l.dropWhile (pb wordB))
    else if pb digitB c = true then
      match numL (l.takeWhile (pb numB)) with
      | none => .bad
      | some n => .tok ⟨2, n, []⟩ (l.dropWhile (pb numB))
    else if signN l = 0 then .bad
    else .tok ⟨3, 0, l.take (signN l)⟩ (l.drop (signN l))

def toksF : Nat → List UInt8 → Option (List Tok)
  | 0, _ => none
  | f + 1, l => match nextT (l.dropWhile (pb blankB)) with
    | .fin => some []
    | .bad => none
    | .tok t r => (toksF f r).map (t :: ·)

def toks (l : List UInt8) : Option (List Tok) := toksF (l.length + 1) l

theorem dropWhile_len {p : UInt8 → Bool} : ∀ l : List UInt8, (l.dropWhile p).length ≤ l.length
  | [] => by simp
  | c :: r => by
    have := dropWhile_len (p := p) r
    simp only [List.dropWhile_cons]
    split <;> simp <;> omega

theorem nextT_len {l r : List UInt8} {t : Tok} (h : nextT l = .tok t r) : r.length < l.length := by
  unfold nextT at h
  split at h
  · cases h
  · rename_i c tl
    split at h
    · rename_i hc
      injection h with h1 h2
      subst h2
      have hw : pb wordB c = true := by simp [pb, wordB] at hc ⊢; simp [hc]
      rw [List.dropWhile_cons, if_pos hw]
      have := dropWhile_len (p := pb wordB) tl
      simp; omega
    · split at h
      · rename_i hc
        split at h
        · cases h
        · injection h with h1 h2
          subst h2
          have hw : pb numB c = true := by simp [pb, numB] at hc ⊢; simp [hc]
          rw [List.dropWhile_cons, if_pos hw]
          have := dropWhile_len (p := pb numB) tl
          simp; omega
      · split at h
        · cases h
        · injection h with h1 h2
          subst h2
          simp; omega

theorem toksF_more : ∀ (f g : Nat) (l : List UInt8), l.length < f → l.length < g → toksF f l = toksF g l
  | 0, _, _, h, _ => by omega
  | _, 0, _, _, h => by omega
  | f + 1, g + 1, l, hf, hg => by
    unfold toksF
    have hd := dropWhile_len (p := pb blankB) l
    split
    · rfl
    · rfl
    · rename_i t r hn
      have := nextT_len hn
      rw [toksF_more f g r (by omega) (by omega)]

theorem toks_eq (l : List UInt8) : toks l = match nextT (l.dropWhile (pb blankB)) with
    | .fin => some []
    | .bad => none
    | .tok t r => (toks r).map (t :: ·) := by
  unfold toks
  rw [toksF]
  have hd := dropWhile_len (p := pb blankB) l
  split
  · rfl
  · rfl
  · rename_i t r hn
    have := nextT_len hn
    rw [toksF_more l.length (r.length + 1) r (by omega) (by omega)]

theorem toks_tok {l r : List UInt8} {t : Tok} (h : nextT (l.dropWhile (pb blankB)) = .tok t r) : toks l = (toks r).map (t :: ·) := by rw [toks_eq, h]

/-- What stands ahead of a remark. -/
def code (l : List UInt8) : List UInt8 := l.takeWhile (· != 59)

/-- What a line's tokens are. -/
def lineToks (l : List UInt8) : Option (List Tok) := if 80 < l.length then none else toks (code l)

def lineErr (l : List UInt8) : Int := if 80 < l.length then 4 else if (toks (code l)).isSome then 0 else 2

def lineList (l : List UInt8) : List Tok := (lineToks l).getD []


theorem index9 (s : ByteArray) (k : Nat) (i : Int) (hi : i = (k : Int)) (hk : k < s.size) (w : World) : (Instr.index 9 (.string s) (.int .i64 i)).run Tryz.prog w = .ok (.int .u8 (s[k].toNat : Int)) w := by
  subst hi
  simp [Instr.index, run_underlying Tryz.underlying9, asIntOf, hk]

def Enters1 (f : FuncId) : Prop := ∀ args w, (callFunc f args).run Tryz.prog w = .ok (.enter f args) w

def Asks (f : FuncId) (p : Int → Bool) : Prop := ∀ (c : UInt8) (w : World), Calls Tryz.prog f #[.int .u8 (c.toNat : Int)] w fun e w' => e = .returned (.bool (p c.toNat)) ∧ w' = w

def spanL (p : Int → Bool) (l : List UInt8) : Nat := (l.takeWhile (pb p)).length

theorem drop_at {s : ByteArray} {k : Nat} (hk : k < s.size) : s.data.toList.drop k = s[k] :: s.data.toList.drop (k + 1) := by
  have h : k < s.data.toList.length := by simpa using hk
  rw [List.drop_eq_getElem_cons h]
  rfl

theorem spanL_yes {p : Int → Bool} {s : ByteArray} {k : Nat} (hk : k < s.size) (hp : p s[k].toNat = true) (h : spanL p s.data.toList = k + spanL p (s.data.toList.drop k)) :
    spanL p s.data.toList = (k + 1) + spanL p (s.data.toList.drop (k + 1)) := by
  rw [h, drop_at hk]
  have hp' : pb p s[k] = true := hp
  simp only [spanL, List.takeWhile_cons, hp', if_true, List.length_cons]
  omega

theorem spanL_no {p : Int → Bool} {s : ByteArray} {k : Nat} (hk : k < s.size) (hp : p s[k].toNat = false) (h : spanL p s.data.toList = k + spanL p (s.data.toList.drop k)) :
    spanL p s.data.toList = k := by
  rw [h, drop_at hk]
  have hp' : pb p s[k] = false := hp
  simp [spanL, hp']

theorem spanL_end {p : Int → Bool} {s : ByteArray} {k : Nat} (hk : s.size ≤ k) (h : spanL p s.data.toList = k + spanL p (s.data.toList.drop k)) : spanL p s.data.toList = k := by
  rw [h, List.drop_eq_nil_of_le (by simpa using hk)]
  simp [spanL]

theorem span_any (s : ByteArray) (f : FuncId) (p : Int → Bool) (w : World) (hs : s.size ≤ 9223372036854775000) (he : Enters1 f) (hp : Asks f p) :
    Calls Tryz.prog 100 #[.string s, .func (.func f) #[] #[]] w fun e w' => e = .returned (.int .i64 (spanL p s.data.toList)) ∧ w' = w := by
  unfold Enters1 at he
  go_enter Tryz.func100, Tryz.ntmps100
  go_wp2
  go_loop [5] (fun i => ∃ k : Nat, k ≤ s.size ∧ i = .int .i64 k ∧ Hid (spanL p s.data.toList = k + spanL p (s.data.toList.drop k))) (fun i => s.size - (intOf i).toNat)
  case atStart => exact ⟨0, Nat.zero_le _, rfl, by simp [Hid]⟩
  case round =>
    obtain ⟨k, hk, rfl, HS⟩ := hrel
    by_cases hlt : k < s.size
    · have hk1 : (k : Int) < s.size := by omega
      have hidx := index9 s k k rfl hlt
      cases hb : p (s[k].toNat : Int)
      · go_wp2_with fail
        refine (hp _ _).mono ?_
        rintro e w1 ⟨rfl, rfl⟩
        simp only [hb]
        go_wp2
        go_ret
        exact ⟨ret_int (by rw [spanL_no hlt hb HS.out]), rfl⟩
      · go_wp2_with fail
        refine (hp _ _).mono ?_
        rintro e w1 ⟨rfl, rfl⟩
        simp only [hb]
        go_wp2
        exact ⟨⟨k + 1, by omega, by go_num, spanL_yes hlt hb HS.out⟩, by simp [intOf]; omega⟩
    · have hk1 : ¬ (k : Int) < s.size := by omega
      go_wp2
      go_ret
      exact ⟨ret_int (by rw [spanL_end (by omega) HS.out]), rfl⟩

theorem inName_any (c : UInt8) (w : World) :
    Calls Tryz.prog 101 #[.int .u8 (c.toNat : Int)] w fun e w' => e = .returned (.bool (nameB c.toNat)) ∧ w' = w := by
  by_cases h0 : (c.toNat : Int) = 46
  · have e0 : ((c.toNat : Int) == 46) = true := by simp [h0]
    go_enter Tryz.func101, Tryz.ntmps101
    go_wp2
    go_ret
    exact ⟨ret_bool (by simp [nameB, h0]), rfl⟩
  · have e0 : ((c.toNat : Int) == 46) = false := by simp [h0]
    cases h1 : letterB c.toNat
    · cases h2 : digitB c.toNat
      all_goals
        go_enter Tryz.func101, Tryz.ntmps101
        go_wp2_with (first | (go_at_call 102; refine (letter_any _ _).mono ?_; rintro e w' ⟨rfl, rfl⟩; simp only [h1]) | (go_at_call 99; refine (digit_any _ _).mono ?_; rintro e w' ⟨rfl, rfl⟩; simp only [h2]))
        go_ret
        exact ⟨ret_bool (by simp [nameB, h1, h2, h0]), rfl⟩
    · go_enter Tryz.func101, Tryz.ntmps101
      go_wp2_with (go_at_call 102; refine (letter_any _ _).mono ?_; rintro e w' ⟨rfl, rfl⟩; simp only [h1])
      go_ret
      exact ⟨ret_bool (by simp [nameB, h1, h0]), rfl⟩

theorem all8 (p : UInt8 → Bool) (h : ((List.range 256).all fun n => p (UInt8.ofNat n)) = true) (c : UInt8) : p c = true := by
  have := (List.all_eq_true.1 h) c.toNat (List.mem_range.2 c.toNat_lt)
  simpa using this

theorem not_empty {s : ByteArray} (hs : 0 < s.size) : (s.toList == []) = false := by
  rw [ByteArray.toList_eq]
  have h1 : s.data.toList.length = s.size := Array.length_toList
  cases h : s.data.toList with
  | nil => rw [h] at h1; simp only [List.length_nil] at h1; omega
  | cons a r => rfl

theorem enters52 : Enters1 101 := enters_of Tryz.func101 (by kernel_rfl) rfl

theorem empty_of {s : ByteArray} (h : s.data.toList = []) : s = ⟨#[]⟩ := by
  apply ByteArray.ext
  exact Array.toList_inj.1 h

theorem size_of {s : ByteArray} {l : List UInt8} (h : s.data.toList = l) : s.size = l.length := by rw [← h]; exact Array.length_toList.symm


theorem nextT_cons (c : UInt8) (r : List UInt8) : nextT (c :: r) = if pb letterB c = true then .tok ⟨1, 0, (c :: r).takeWhile (pb wordB)⟩ ((c :: r).dropWhile (pb wordB))
    else if pb digitB c = true then
      match numL ((c :: r).takeWhile (pb numB)) with
      | none => .bad
      | some n => .tok ⟨2, n, []⟩ ((c :: r).dropWhile (pb numB))
    else if signN (c :: r) = 0 then .bad
    else .tok ⟨3, 0, (c :: r).take (signN (c :: r))⟩ ((c :: r).drop (signN (c :: r))) := rfl

theorem line_done {l : List UInt8} {done : List Tok} (h : l.length ≤ 80) (e : toks (code l) = some done) : lineErr l = 0 ∧ lineList l = done := by
  have h' : ¬ 80 < l.length := by omega
  unfold lineErr lineList lineToks
  rw [if_neg h', if_neg h', e]
  exact ⟨rfl, rfl⟩

theorem line_bad {l : List UInt8} (h : l.length ≤ 80) (e : toks (code l) = none) : lineErr l = 2 ∧ lineList l = [] := by
  have h' : ¬ 80 < l.length := by omega
  unfold lineErr lineList lineToks
  rw [if_neg h', if_neg h', e]
  exact ⟨rfl, rfl⟩

theorem line_much {l : List UInt8} (h : 80 < l.length) : lineErr l = 4 ∧ lineList l = [] := by
  unfold lineErr lineList lineToks
  rw [if_pos h, if_pos h]
  exact ⟨rfl, rfl⟩

theorem ownsRow_base {w : World} {b b' n : Nat} {e : TypeId} {size : Nat} {v : Value} {xs : List Value} (h : w.ownsRow b e size v n xs) (hb : b' ≤ b) : w.ownsRow b' e size v n xs := by
  refine ⟨h.1, ?_⟩
  rcases h.2 with h | ⟨g, cap, cur, rfl, hg, rest⟩
  · exact Or.inl h
  · exact Or.inr ⟨g, cap, cur, rfl, by omega, rest⟩


/-- The slice v reads as the tokens ts. -/
def TReads (w : World) (v : Value) (ts : List Tok) : Prop :=
  ∃ ad cap, v = .slice ad ts.length cap ∧ ts.length ≤ maxLen ∧ (0 < ts.length → ∃ b o, ad = some ⟨b, o, none⟩ ∧ b < w.heap.size ∧ ∀ i (h : i < ts.length),
    w.cell? ⟨b, o + i * 3, none⟩ = some (.int .i64 ts[i].kind) ∧ w.cell? ⟨b, o + i * 3 + 1, none⟩ = some (.int .i64 ts[i].n) ∧ w.cell? ⟨b, o + i * 3 + 2, none⟩ = some (.string ⟨ts[i].text.toArray⟩))

theorem tcells_length (ts : List Tok) : (tcells ts).length = ts.length * 3 := by
  induction ts with
  | nil => rfl
  | cons t r ih => simp [tcells, Tok.cells] at ih ⊢; omega

theorem tcells_at : ∀ (ts : List Tok) (i : Nat) (h : i < ts.length), (tcells ts)[i * 3]? = some (.int .i64 ts[i].kind) ∧ (tcells ts)[i * 3 + 1]? = some (.int .i64 ts[i].n) ∧ (tcells ts)[i * 3 + 2]? = some (.string ⟨ts[i].text.toArray⟩)
  | [], i, h => by simp at h
  | t :: r, 0, _ => ⟨rfl, rfl, rfl⟩
  | t :: r, i + 1, h => by
    have ih := tcells_at r i (by simpa using h)
    have e : tcells (t :: r) = [.int .i64 t.kind, .int .i64 t.n, .string ⟨t.text.toArray⟩] ++ tcells r := rfl
    rw [e]
    refine ⟨?_, ?_, ?_⟩
    · rw [List.getElem?_append_right (by simp; omega)]; simpa [Nat.add_mul] using ih.1
    · rw [List.getElem?_append_right (by simp; omega), show (i + 1) * 3 + 1 - [Value.int .i64 t.kind, .int .i64 t.n, .string ⟨t.text.toArray⟩].length = i * 3 + 1 by simp; omega]; exact ih.2.1
    · rw [List.getElem?_append_right (by simp; omega), show (i + 1) * 3 + 2 - [Value.int .i64 t.kind, .int .i64 t.n, .string ⟨t.text.toArray⟩].length = i * 3 + 2 by simp; omega]; exact ih.2.2

theorem reads_of_owns {w : World} {base : Nat} {v : Value} {ts : List Tok} (h : w.ownsRow base 171 3 v ts.length (tcells ts)) : TReads w v ts := by
  rcases h.2 with ⟨rfl, hn⟩ | ⟨g, cap, cur, rfl, _, hg, hle, hm, _⟩
  · exact ⟨none, 0, by rw [hn], by rw [hn]; exact Nat.zero_le _, fun h0 => by omega⟩
  · refine ⟨_, cap, rfl, Nat.le_trans hle hm, fun _ => ⟨g, 0, rfl, (Array.getElem?_eq_some_iff.1 hg).1, fun i hi => ?_⟩⟩
    have ha := tcells_at ts i hi
    have hadd : ∀ j, (⟨g, 0, none⟩ : Addr).add j = ⟨g, 0 + j, none⟩ := fun j => by unfold Addr.add; split <;> simp_all
    have x0 := h.cells rfl _ _ ha.1
    have x1 := h.cells rfl _ _ ha.2.1
    have x2 := h.cells rfl _ _ ha.2.2
    rw [hadd] at x0 x1 x2
    exact ⟨x0, x1, x2⟩

theorem TReads.below {w w' : World} {B : Nat} {v : Value} {ts : List Tok} (h : TReads w v ts) (hb : Below B w w') (hB : w.heap.size ≤ B) : TReads w' v ts := by
  obtain ⟨ad, cap, rfl, hm, hc⟩ := h
  refine ⟨ad, cap, rfl, hm, fun h0 => ?_⟩
  obtain ⟨b, o, rfl, hlt, hcell⟩ := hc h0
  refine ⟨b, o, rfl, Nat.lt_of_lt_of_le hlt hb.size, fun i hi => ?_⟩
  have := hcell i hi
  rw [hb.cell (by show b < B; omega), hb.cell (by show b < B; omega), hb.cell (by show b < B; omega)]
  exact this


/-- What is written of a token. -/
def prT (t : Tok) : List UInt8 := if t.kind = 2 then Lib.itoa t.n else t.text

def printL (ts : List Tok) : List UInt8 := Lib.join (ts.map prT) [32]


/-- Whether it is a name. -/
def nameR (l : List UInt8) : Bool := match l with
  | [] => false
  | c :: r => decide (r.length < 10) && !pb digitB c && (c :: r).all (pb nameB)

theorem spanL_all (p : Int → Bool) : ∀ l : List UInt8, decide (spanL p l = l.length) = l.all (pb p)
  | [] => rfl
  | c :: r => by
    have ih := spanL_all p r
    simp only [spanL, List.takeWhile_cons, List.all_cons] at ih ⊢
    cases hc : pb p c
    · simp
    · rw [← ih]; simp only [if_true, List.length_cons, Bool.true_and, Nat.add_right_cancel_iff]; exact decide_eq_decide.2 Iff.rfl

theorem name_any (s : ByteArray) (w : World) :
    Calls Tryz.prog 75 #[.string s] w fun e w' => e = .returned (.bool (nameR s.data.toList)) ∧ w' = w := by
  have hlen := size_of (rfl : s.data.toList = _)
  cases hl : s.data.toList with
  | nil =>
    have hs : s = ⟨#[]⟩ := empty_of hl
    subst hs
    go_enter Tryz.func75, Tryz.ntmps75
    go_wp2
    go_ret
    exact ⟨rfl, rfl⟩
  | cons c r =>
    rw [hl] at hlen
    simp only [List.length_cons] at hlen
    have h0 : 0 < s.size := by omega
    have h1 : ¬ (s.size : Int) < 1 := by omega
    by_cases h10 : (10 : Int) < s.size
    · have HF : Hid (nameR (c :: r) = false) := by
        have : ¬ r.length < 10 := by omega
        simp [Hid, nameR, this]
      clear hlen
      go_enter Tryz.func75, Tryz.ntmps75
      go_wp2
      go_ret
      exact ⟨ret_bool HF.out.symm, rfl⟩
    · have hat : s[0] = c := by
        have := drop_at h0
        rw [List.drop_zero, hl] at this
        injection this with h1 _
        exact h1.symm
      have hidx := index9 s 0 0 rfl h0
      rw [hat] at hidx
      cases hd : digitB c.toNat
      · have HF : Hid (nameR (c :: r) = decide (spanL nameB (c :: r) = (c :: r).length)) := by
          have h2 : r.length < 10 := by omega
          have h3 : pb digitB c = false := hd
          rw [spanL_all]
          simp [Hid, nameR, h2, h3]
        have hsp : ∀ w, Calls Tryz.prog 100 #[.string s, .func (.func 101) #[] #[]] w fun e w' => e = .returned (.int .i64 (spanL nameB (c :: r))) ∧ w' = w := by
          intro w
          have := span_any s 101 nameB w (by omega) enters52 (fun c w => inName_any c w)
          rw [hl] at this
          exact this
        have hsz : (s.size : Int) = ((c :: r).length : Nat) := by simp; omega
        rw [HF.out]
        clear HF hl hat
        go_enter Tryz.func75, Tryz.ntmps75
        go_wp2_with (first | (go_at_call 99; refine (digit_any _ _).mono ?_; rintro e w' ⟨rfl, rfl⟩; simp only [hd]) | (go_at_call 100; refine (hsp _).mono ?_; rintro e w' ⟨rfl, rfl⟩))
        go_ret
        refine ⟨ret_bool ?_, rfl⟩
        show decide (((spanL nameB (c :: r) : Nat) : Int) = (r.length : Int) + 1) = _
        exact decide_eq_decide.2 (by omega)
      · have HF : Hid (nameR (c :: r) = false) := by
          have h3 : pb digitB c = true := hd
          simp [Hid, nameR, h3]
        clear hlen hl hat
        go_enter Tryz.func75, Tryz.ntmps75
        go_wp2_with (go_at_call 99; refine (digit_any _ _).mono ?_; rintro e w' ⟨rfl, rfl⟩; simp only [hd])
        go_ret
        exact ⟨ret_bool HF.out.symm, rfl⟩


def Good (t : Tok) : Prop :=
  (∃ c r, t = ⟨1, 0, c :: r⟩ ∧ pb letterB c = true ∧ r.all (pb wordB) = true) ∨
  (∃ u : Nat, t = ⟨2, u, []⟩ ∧ u ≤ 4294967295) ∨
  (∃ l, t = ⟨3, 0, l⟩ ∧ (l = [60, 60] ∨ l = [62, 62] ∨ ∃ c, l = [c] ∧ pb signB c = true))

theorem hasPrefix_two {l : List UInt8} {a b : UInt8} (h : Lib.hasPrefix l [a, b] = true) : ∃ r, l = a :: b :: r := by
  unfold Lib.hasPrefix at h
  obtain ⟨r, rfl⟩ := List.isPrefixOf_iff_prefix.1 h
  exact ⟨r, rfl⟩

/-- A list of bytes ends there. -/
def Ends (l : List UInt8) : Prop := l = [] ∨ ∃ r, l = 32 :: r

theorem span_stop {p : UInt8 → Bool} (h32 : p 32 = false) : ∀ (l rest : List UInt8), l.all p = true → Ends rest → (l ++ rest).takeWhile p = l ∧ (l ++ rest).dropWhile p = rest
  | [], rest, _, he => by
    rcases he with rfl | ⟨r, rfl⟩
    · exact ⟨rfl, rfl⟩
    · simp [h32]
  | c :: l, rest, ha, he => by
    simp only [List.all_cons, Bool.and_eq_true] at ha
    have ih := span_stop h32 l rest ha.2 he
    simp [ha.1, ih.1, ih.2]

theorem decDigits_all (u : Nat) : (Lib.decDigits u).all (pb digitB) = true := by
  induction u using Nat.strongRecOn with
  | _ u ih =>
    by_cases h : u < 10
    · rw [Lib.decDigits_one h]
      have : (48 + u) % 256 = 48 + u := by omega
      simp [pb, digitB, this]; omega
    · rw [Lib.decDigits, dif_neg h, List.all_append, ih (u / 10) (by omega)]
      have : (48 + u % 10) % 256 = 48 + u % 10 := by omega
      simp [pb, digitB, this]; omega

theorem decDigits_ne (u : Nat) : Lib.decDigits u ≠ [] := by
  intro h
  have := Lib.decDigits_length u
  have := Lib.nDigits_pos u
  rw [h] at *
  simp at *
  omega

theorem parseN_append (l : List UInt8) (c : UInt8) : ∀ acc n, parseN 10 acc l = some n → parseN 10 acc (l ++ [c]) = parseN 10 n [c] := by
  induction l with
  | nil => intro acc n h; simp [parseN] at h; subst h; rfl
  | cons d r ih =>
    intro acc n h
    unfold parseN at h
    rw [List.cons_append, parseN]
    split at h
    · cases h
    · rename_i v hv
      split at h
      · rename_i hle
        simp only [if_pos hle]
        exact ih _ _ h
      · cases h

theorem parse_digits (u : Nat) : u ≤ 4294967295 → parseN 10 0 (Lib.decDigits u) = some u := by
  induction u using Nat.strongRecOn with
  | _ u ih =>
    intro hu
    by_cases h : u < 10
    · rw [Lib.decDigits_one h]
      have e : (UInt8.ofNat (48 + u)).toNat = 48 + u := by simp; omega
      have hv : digV 10 (UInt8.ofNat (48 + u)).toNat = some u := by rw [e]; simp [digV]; omega
      simp only [parseN, hv]
      rw [if_pos (by omega)]
      simp
    · rw [Lib.decDigits, dif_neg h]
      rw [parseN_append _ _ 0 (u / 10) (ih (u / 10) (by omega) (by omega))]
      have e : (UInt8.ofNat (48 + u % 10)).toNat = 48 + u % 10 := by simp; omega
      have hv : digV 10 (UInt8.ofNat (48 + u % 10)).toNat = some (u % 10) := by rw [e]; simp [digV]; omega
      simp only [parseN, hv]
      rw [if_pos (by omega)]
      simp; omega

theorem digit_num {c : UInt8} (h : pb digitB c = true) : pb numB c = true := by unfold pb numB at *; simp [h]

theorem digit_noletter {c : UInt8} (h : pb digitB c = true) : pb letterB c = false := by
  unfold pb digitB letterB at *
  simp at h ⊢
  omega

theorem letter_word {c : UInt8} (h : pb letterB c = true) : pb wordB c = true := by unfold pb wordB at *; simp [h]

theorem num_numL {u : Nat} (hu : u ≤ 4294967295) : numL (Lib.decDigits u) = some u := by
  have hall := decDigits_all u
  have hp : Lib.hasPrefix (Lib.decDigits u) [48, 120] = false := by
    cases h : Lib.hasPrefix (Lib.decDigits u) [48, 120]
    · rfl
    · obtain ⟨r, e⟩ := hasPrefix_two h
      rw [e] at hall
      simp [pb, digitB] at hall
  unfold numL parseU
  rw [if_neg (by simp [hp]), if_neg (decDigits_ne u), parse_digits u hu]

theorem sign_nodigit {c : UInt8} (h : pb signB c = true) : pb letterB c = false ∧ pb digitB c = false ∧ pb blankB c = false ∧ c ≠ 60 ∧ c ≠ 62 ∧ c ≠ 59 := by
  have := all8 (fun c => !pb signB c || (!pb letterB c && !pb digitB c && !pb blankB c && c != 60 && c != 62 && c != 59)) (by decide +kernel) c
  simp [h] at this
  obtain ⟨⟨⟨⟨⟨a, b⟩, d⟩, e⟩, f⟩, g⟩ := this
  exact ⟨a, b, d, e, f, g⟩

/-- What is written of a token, with a blank or nothing behind it, is read as that token. -/
theorem next_pr {t : Tok} (ht : Good t) {rest : List UInt8} (he : Ends rest) : nextT (prT t ++ rest) = .tok t rest ∧ (prT t ++ rest).dropWhile (pb blankB) = prT t ++ rest ∧ (∀ c, c ∈ prT t → c ≠ 59) := by
  rcases ht with ⟨c, r, rfl, hc, hr⟩ | ⟨u, rfl, hu⟩ | ⟨l, rfl, hl⟩
  · have hall : (c :: r).all (pb wordB) = true := by simp [letter_word hc, hr]
    have hs := span_stop (p := pb wordB) (by decide) (c :: r) rest hall he
    have e : prT ⟨1, 0, c :: r⟩ = c :: r := rfl
    rw [e]
    have hb : pb blankB c = false := by
      have := all8 (fun c => !pb letterB c || !pb blankB c) (by decide +kernel) c
      simp [hc] at this
      exact this
    refine ⟨?_, ?_, ?_⟩
    · rw [List.cons_append] at hs ⊢
      rw [nextT_cons, if_pos hc, hs.1, hs.2]
    · rw [List.cons_append, List.dropWhile_cons, hb]
      rfl
    · intro d hd e
      subst e
      have := List.all_eq_true.1 hall 59 hd
      revert this
      decide
  · have hall := decDigits_all u
    have hne := decDigits_ne u
    have e : prT ⟨2, u, []⟩ = Lib.decDigits u := by
      show Lib.itoa (u : Int) = _
      exact Lib.itoa_nonneg u
    rw [e]
    have hn := num_numL hu
    have hs := span_stop (p := pb numB) (by decide) (Lib.decDigits u) rest (by
      rw [List.all_eq_true] at hall ⊢
      intro x hx
      exact digit_num (hall x hx)) he
    cases hd : Lib.decDigits u with
    | nil => exact absurd hd hne
    | cons c r =>
      rw [hd] at hall hs hn
      have hc : pb digitB c = true := by simp only [List.all_cons, Bool.and_eq_true] at hall; exact hall.1
      have hb : pb blankB c = false := by
        have := all8 (fun c => !pb digitB c || !pb blankB c) (by decide +kernel) c
        simp [hc] at this
        exact this
      refine ⟨?_, ?_, ?_⟩
      · rw [List.cons_append] at hs ⊢
        rw [nextT_cons, if_neg (by simp [digit_noletter hc]), if_pos hc, hs.1, hs.2, hn]
      · rw [List.cons_append, List.dropWhile_cons, hb]
        rfl
      · intro d hd e
        subst e
        have := List.all_eq_true.1 hall 59 hd
        revert this
        decide
  · have e : prT ⟨3, 0, l⟩ = l := rfl
    rw [e]
    rcases hl with rfl | rfl | ⟨c, rfl, hc⟩
    · refine ⟨?_, rfl, ?_⟩
      · show nextT (60 :: 60 :: rest) = _
        rw [nextT_cons, if_neg (by decide), if_neg (by decide)]
        have : signN (60 :: 60 :: rest) = 2 := by
          unfold signN
          rw [if_pos (Or.inl (by simp [Lib.hasPrefix, List.isPrefixOf]))]
        rw [this]
        rfl
      · intro d hd; simp at hd; subst hd; decide
    · refine ⟨?_, rfl, ?_⟩
      · show nextT (62 :: 62 :: rest) = _
        rw [nextT_cons, if_neg (by decide), if_neg (by decide)]
        have : signN (62 :: 62 :: rest) = 2 := by
          unfold signN
          rw [if_pos (Or.inr (by simp [Lib.hasPrefix, List.isPrefixOf]))]
        rw [this]
        rfl
      · intro d hd; simp at hd; subst hd; decide
    · obtain ⟨h1, h2, h3, h4, h5, h6⟩ := sign_nodigit hc
      refine ⟨?_, ?_, ?_⟩
      · show nextT (c :: rest) = _
        rw [nextT_cons, if_neg (by simp [h1]), if_neg (by simp [h2])]
        have : signN (c :: rest) = 1 := by
          unfold signN
          rw [if_neg]
          · simp only [if_pos hc]
          · intro h
            rcases h with h | h
            · obtain ⟨r, e⟩ := hasPrefix_two h
              injection e with e1 _
              exact h4 e1
            · obtain ⟨r, e⟩ := hasPrefix_two h
              injection e with e1 _
              exact h5 e1
        rw [this]
        rfl
      · show (c :: rest).dropWhile (pb blankB) = _
        rw [List.dropWhile_cons, h3]
        rfl
      · intro d hd; simp at hd; subst hd; exact h6

def tailL (ts : List Tok) : List UInt8 := Lib.joinTail [32] (ts.map prT)

theorem tailL_cons (t : Tok) (r : List Tok) : tailL (t :: r) = 32 :: (prT t ++ tailL r) := by simp [tailL, Lib.joinTail]

theorem tailL_ends (ts : List Tok) : Ends (tailL ts) := by
  cases ts with
  | nil => exact Or.inl rfl
  | cons t r => exact Or.inr ⟨_, tailL_cons t r⟩

theorem printL_cons (t : Tok) (r : List Tok) : printL (t :: r) = prT t ++ tailL r := by
  unfold printL tailL
  rw [List.map_cons, Lib.join_cons]

theorem toks_tail : ∀ ts : List Tok, (∀ t, t ∈ ts → Good t) → toks (tailL ts) = some ts
  | [], _ => rfl
  | t :: r, h => by
    have hn := next_pr (h t (by simp)) (tailL_ends r)
    have ih := toks_tail r (fun t' ht' => h t' (by simp [ht']))
    have hd : (tailL (t :: r)).dropWhile (pb blankB) = prT t ++ tailL r := by
      rw [tailL_cons, List.dropWhile_cons, if_pos (by decide)]
      exact hn.2.1
    rw [toks_tok (by rw [hd]; exact hn.1), ih]
    rfl

theorem toks_print (ts : List Tok) (h : ∀ t, t ∈ ts → Good t) : toks (printL ts) = some ts := by
  cases ts with
  | nil => rfl
  | cons t r =>
    have hn := next_pr (h t (by simp)) (tailL_ends r)
    have ih := toks_tail r (fun t' ht' => h t' (by simp [ht']))
    rw [printL_cons, toks_tok (by rw [hn.2.1]; exact hn.1), ih]
    rfl

theorem tail_nosemi : ∀ ts : List Tok, (∀ t, t ∈ ts → Good t) → ∀ c, c ∈ tailL ts → c ≠ 59
  | [], _, c, hc => by simp [tailL, Lib.joinTail] at hc
  | t :: r, h, c, hc => by
    rw [tailL_cons] at hc
    rcases List.mem_cons.1 hc with rfl | hc
    · decide
    · rcases List.mem_append.1 hc with hc | hc
      · exact (next_pr (h t (by simp)) (tailL_ends r)).2.2 c hc
      · exact tail_nosemi r (fun t' ht' => h t' (by simp [ht'])) c hc

theorem code_print (ts : List Tok) (h : ∀ t, t ∈ ts → Good t) : code (printL ts) = printL ts := by
  have hall : ∀ c, c ∈ printL ts → c ≠ 59 := by
    cases ts with
    | nil => intro c hc; simp [printL, Lib.join, List.intercalate] at hc
    | cons t r =>
      intro c hc
      rw [printL_cons] at hc
      rcases List.mem_append.1 hc with hc | hc
      · exact (next_pr (h t (by simp)) (tailL_ends r)).2.2 c hc
      · exact tail_nosemi r (fun t' ht' => h t' (by simp [ht'])) c hc
  unfold code
  generalize printL ts = l at hall
  induction l with
  | nil => rfl
  | cons c r ih =>
    rw [List.takeWhile_cons, if_pos (by simp [hall c (by simp)]), ih (fun d hd => hall d (by simp [hd]))]


/-- A byte's kind, as the document's answer tells it. -/
def kindR (c : Int) : Int := if letterB c then 97 else if digitB c then 48 else if blankB c then 32 else 0

theorem beq_no {a b : Int} (h : a ≠ b) : (a == b) = false := by simpa using h

theorem letter_blank (c : UInt8) : (letterB c.toNat && (blankB c.toNat || digitB c.toNat)) = false := by
  have := all8 (fun c => (letterB c.toNat && (blankB c.toNat || digitB c.toNat)) == false) (by decide +kernel) c
  exact beq_iff_eq.1 this

theorem kind97 (c : Int) : (kindR c == 97) = letterB c := by
  unfold kindR
  cases letterB c
  · cases digitB c
    · cases blankB c <;> rfl
    · rfl
  · rfl

theorem kind48 {c : Int} (h : letterB c = false) : (kindR c == 48) = digitB c := by
  unfold kindR
  rw [h]
  cases digitB c
  · cases blankB c <;> rfl
  · rfl

theorem owns_belowT {w w' : World} {base n : Nat} {e : TypeId} {size : Nat} {v : Value} {xs : List Value} (h : w.ownsRow base e size v n xs) (hb : Below w.heap.size w w') : w'.ownsRow base e size v n xs := by
  refine ⟨h.1, ?_⟩
  rcases h.2 with h | ⟨g, cap, cur, rfl, hg, hcur, rest⟩
  · exact Or.inl h
  · exact Or.inr ⟨g, cap, cur, rfl, hg, (hb.block g (Array.getElem?_eq_some_iff.1 hcur).1).trans hcur, rest⟩


theorem kindN97 (c : Int) : (kindR c != 97) = !letterB c := by rw [bne, kind97]

theorem kindN48 {c : Int} (h : letterB c = false) : (kindR c != 48) = !digitB c := by rw [bne, kind48 h]

/-- A name's bytes from a place on. -/
def allAt (l : List UInt8) (k : Nat) : Prop := l.all (pb nameB) = (l.drop k).all (pb nameB)

theorem allAt_start (l : List UInt8) : allAt l 0 := by simp [allAt]

theorem allAt_yes {l r : List UInt8} {k : Nat} {c : UInt8} (h : allAt l k) (hd : l.drop k = c :: r) (hc : nameB c.toNat = true) : allAt l (k + 1) := by
  unfold allAt at h ⊢
  have hr : l.drop (k + 1) = r := by rw [← List.drop_drop, hd]; rfl
  have hp : pb nameB c = true := hc
  rw [h, hd, hr]
  simp [hp]

theorem allAt_no {l r : List UInt8} {k : Nat} {c : UInt8} (h : allAt l k) (hd : l.drop k = c :: r) (hc : nameB c.toNat = false) : l.all (pb nameB) = false := by
  unfold allAt at h
  have hp : pb nameB c = false := hc
  rw [h, hd]
  simp [hp]

theorem allAt_end {l : List UInt8} {k : Nat} (h : allAt l k) (hd : l.length ≤ k) : l.all (pb nameB) = true := by
  unfold allAt at h
  rw [h, List.drop_eq_nil_of_le hd]
  rfl

theorem nameR_eq {c : UInt8} {r : List UInt8} (h : r.length < 10) (hl : letterB c.toNat = true) : nameR (c :: r) = (c :: r).all (pb nameB) := by
  have hd : pb digitB c = false := by have := letter_blank c; rw [hl] at this; simp at this; exact this.2
  simp [nameR, h, hd]

theorem nameR_no {c : UInt8} {r : List UInt8} (hl : letterB c.toNat = false) : nameR (c :: r) = false := by
  unfold nameR
  cases hd : pb digitB c
  · have : pb nameB c = false := by
      have h1 : digitB c.toNat = false := hd
      simp [pb, nameB, hl, h1]
    simp [this]
  · simp [hd]

end Go.Proofs.YtgjmbjahgcndnaaGreatDoor.Xp

namespace Go.Proofs.YtgjmbjahgcndnaaGreatDoor.Xp
open Go.RowKit

inductive Ex where
  | mk (kind n : Int) (name : List UInt8) (kids : List Ex)

structure Va where
  name : List UInt8
  n : Int

/-- A number of 32 bits. -/
def sgn (n : Int) : Int := wrap32 n

/-- The sign that tokens begin with; empty: none. -/
def signOf : List Tok → List UInt8
  | [] => []
  | t :: _ => if t.kind = 3 then t.text else []

/-- How a sign binds, and its kind; 0: it is none between two. -/
def strengthR (s : List UInt8) : Nat × Int :=
  if s = [124] then (1, 11)
  else if s = [38] then (2, 10)
  else if s = [60, 60] then (3, 8)
  else if s = [62, 62] then (3, 9)
  else if s = [43] then (4, 6)
  else if s = [45] then (4, 7)
  else if s = [42] then (5, 5)
  else (0, 0)

/-- What one token alone is. -/
def leafR : List Tok → Except Int (Ex × List Tok)
  | [] => .error 9
  | t :: r =>
    if t.kind = 2 then .ok (.mk 1 (sgn t.n) [] [], r)
    else if t.kind ≠ 1 then .error 2
    else if nameR t.text = true then .ok (.mk 2 0 t.text [], r)
    else .error 7

abbrev Res := Option (Except Int (Ex × List Tok))

mutual
/-- What has no sign between; f: how far to look. -/
def primeR : Nat → Nat → List Tok → Res
  | 0, _, _ => none
  | f + 1, deep, l =>
    if 6 < deep then some (.error 10)
    else if signOf l = [45] then
      match primeR f (deep + 1) l.tail with
      | none => none
      | some (.error e) => some (.error e)
      | some (.ok (k, r)) => some (.ok (.mk 3 0 [] [k], r))
    else if signOf l = [126] then
      match primeR f (deep + 1) l.tail with
      | none => none
      | some (.error e) => some (.error e)
      | some (.ok (k, r)) => some (.ok (.mk 4 0 [] [k], r))
    else if signOf l = [40] then
      match climbR f 1 (deep + 1) l.tail with
      | none => none
      | some (.error e) => some (.error e)
      | some (.ok (k, r)) => if signOf r = [41] then some (.ok (k, r.tail)) else some (.error 2)
    else some (leafR l)
/-- Signs of a strength, or more. -/
def climbR : Nat → Nat → Nat → List Tok → Res
  | 0, _, _, _ => none
  | f + 1, least, deep, l =>
    match primeR f deep l with
    | none => none
    | some (.error e) => some (.error e)
    | some (.ok (k, r)) => moreR f least deep k r
/-- .. behind a first one. -/
def moreR : Nat → Nat → Nat → Ex → List Tok → Res
  | 0, _, _, _, _ => none
  | f + 1, least, deep, e, l =>
    if (strengthR (signOf l)).1 < least then some (.ok (e, l))
    else
      match climbR f ((strengthR (signOf l)).1 + 1) deep l.tail with
      | none => none
      | some (.error x) => some (.error x)
      | some (.ok (k, r)) => moreR f least deep (.mk (strengthR (signOf l)).2 0 [] [e, k]) r
end

theorem more_all : ∀ (f : Nat),
    (∀ deep l r, primeR f deep l = some r → primeR (f + 1) deep l = some r) ∧
    (∀ least deep l r, climbR f least deep l = some r → climbR (f + 1) least deep l = some r) ∧
    (∀ least deep e l r, moreR f least deep e l = some r → moreR (f + 1) least deep e l = some r)
  | 0 => ⟨fun _ _ _ h => by simp [primeR] at h, fun _ _ _ _ h => by simp [climbR] at h, fun _ _ _ _ _ h => by simp [moreR] at h⟩
  | f + 1 => by
    obtain ⟨i1, i2, i3⟩ := more_all f
    refine ⟨fun deep l r h => ?_, fun least deep l r h => ?_, fun least deep e l r h => ?_⟩
    · rw [primeR] at h ⊢
      by_cases h6 : 6 < deep
      · rw [if_pos h6] at h ⊢; exact h
      rw [if_neg h6] at h ⊢
      by_cases ha : signOf l = [45]
      · rw [if_pos ha] at h ⊢
        cases hp : primeR f (deep + 1) l.tail with
        | none => rw [hp] at h; cases h
        | some x => rw [hp] at h; rw [i1 _ _ _ hp]; exact h
      rw [if_neg ha] at h ⊢
      by_cases hb : signOf l = [126]
      · rw [if_pos hb] at h ⊢
        cases hp : primeR f (deep + 1) l.tail with
        | none => rw [hp] at h; cases h
        | some x => rw [hp] at h; rw [i1 _ _ _ hp]; exact h
      rw [if_neg hb] at h ⊢
      by_cases hc : signOf l = [40]
      · rw [if_pos hc] at h ⊢
        cases hp : climbR f 1 (deep + 1) l.tail with
        | none => rw [hp] at h; cases h
        | some x => rw [hp] at h; rw [i2 _ _ _ _ hp]; exact h
      rw [if_neg hc] at h ⊢
      exact h
    · rw [climbR] at h ⊢
      cases hp : primeR f deep l with
      | none => rw [hp] at h; cases h
      | some x =>
        rw [hp] at h
        rw [i1 _ _ _ hp]
        cases x with
        | error e => exact h
        | ok y => exact i3 _ _ _ _ _ h
    · rw [moreR] at h ⊢
      by_cases h6 : (strengthR (signOf l)).1 < least
      · rw [if_pos h6] at h ⊢; exact h
      rw [if_neg h6] at h ⊢
      cases hp : climbR f ((strengthR (signOf l)).1 + 1) deep l.tail with
      | none => rw [hp] at h; cases h
      | some x =>
        rw [hp] at h
        rw [i2 _ _ _ _ hp]
        cases x with
        | error e => exact h
        | ok y => exact i3 _ _ _ _ _ h

theorem prime_le {f g deep : Nat} {l : List Tok} {r} (hfg : f ≤ g) (h : primeR f deep l = some r) : primeR g deep l = some r := by
  induction g with
  | zero => obtain rfl : f = 0 := by omega
            exact h
  | succ g ih =>
    by_cases e : f = g + 1
    · subst e; exact h
    · exact (more_all g).1 _ _ _ (ih (by omega))
theorem climb_le {f g least deep : Nat} {l : List Tok} {r} (hfg : f ≤ g) (h : climbR f least deep l = some r) : climbR g least deep l = some r := by
  induction g with
  | zero => obtain rfl : f = 0 := by omega
            exact h
  | succ g ih =>
    by_cases e : f = g + 1
    · subst e; exact h
    · exact (more_all g).2.1 _ _ _ _ (ih (by omega))
theorem rest_le {f g least deep : Nat} {k : Ex} {l : List Tok} {r} (hfg : f ≤ g) (h : moreR f least deep k l = some r) : moreR g least deep k l = some r := by
  induction g with
  | zero => obtain rfl : f = 0 := by omega
            exact h
  | succ g ih =>
    by_cases e : f = g + 1
    · subst e; exact h
    · exact (more_all g).2.2 _ _ _ _ _ (ih (by omega))

/-- What tokens begin with. -/
def Parses (l : List Tok) (r : Except Int (Ex × List Tok)) : Prop := ∃ f, climbR f 1 0 l = some r
theorem Parses.same {l : List Tok} {a b} (ha : Parses l a) (hb : Parses l b) : a = b := by
  obtain ⟨f, hf⟩ := ha
  obtain ⟨g, hg⟩ := hb
  have h1 := climb_le (Nat.le_max_left f g) hf
  have h2 := climb_le (Nat.le_max_right f g) hg
  rw [h1] at h2
  exact Option.some.inj h2

/-- A name's number: the first one counts. -/
def lookE (name : List UInt8) : List (List UInt8 × Int) → Option Int
  | [] => none
  | x :: r => if x.1 = name then some x.2 else lookE name r

/-- Two numbers of 32 bits. -/
def opR (kind x y : Int) : Int :=
  if kind = 5 then wrap32 (x * y)
  else if kind = 6 then wrap32 (x + y)
  else if kind = 7 then wrap32 (x - y)
  else if kind = 8 then wrap32 ((x % 4294967296) * 2 ^ ((y % 4294967296) % 32).toNat)
  else if kind = 9 then wrap32 ((x % 4294967296) / 2 ^ ((y % 4294967296) % 32).toNat)
  else if kind = 10 then bits .and .i32 x y
  else bits .or .i32 x y

/-- The place that two come to, if they may. -/
def placeR (kind : Int) (a b : List UInt8) : Option (List UInt8) :=
  if a = [] ∧ b = [] then some []
  else if kind = 7 ∧ a = b then some []
  else if kind = 7 ∧ b = [] then some a
  else if kind = 6 ∧ a = [] then some b
  else if kind = 6 ∧ b = [] then some a
  else none

/-- What comes of an expression whose parts have come to vs. -/
def combR (equs : List (List UInt8 × Int)) (kind n : Int) (name : List UInt8) (vs : List Va) : Except Int Va :=
  if kind = 1 ∧ vs = [] then .ok ⟨[], sgn n⟩
  else if kind = 2 ∧ vs = [] then
    match lookE name equs with
    | some x => .ok ⟨[], sgn x⟩
    | none => .ok ⟨name, 0⟩
  else match vs with
    | [a] => if kind = 3 ∨ kind = 4 then (if a.name = [] then .ok ⟨[], sgn (if kind = 4 then -a.n - 1 else -a.n)⟩ else .error 8) else .error 1
    | [a, b] => if 5 ≤ kind ∧ kind ≤ 11 then
        match placeR kind a.name b.name with
        | some p => .ok ⟨p, opR kind a.n b.n⟩
        | none => .error 8
      else .error 1
    | _ => .error 1

mutual
def evalR (equs : List (List UInt8 × Int)) : Ex → Except Int Va
  | .mk kind n name kids => match evalL equs kids with
    | .error e => .error e
    | .ok vs => combR equs kind n name vs
def evalL (equs : List (List UInt8 × Int)) : List Ex → Except Int (List Va)
  | [] => .ok []
  | k :: r => match evalR equs k with
    | .error e => .error e
    | .ok v => match evalL equs r with
      | .error e => .error e
      | .ok vs => .ok (v :: vs)
end

end Go.Proofs.YtgjmbjahgcndnaaGreatDoor.Xp

namespace Go.Proofs.YtgjmbjahgcndnaaGreatDoor.Xp
open Go.RowKit

def Ex.kind : Ex → Int | .mk k _ _ _ => k
def Ex.n : Ex → Int | .mk _ n _ _ => n
def Ex.name : Ex → List UInt8 | .mk _ _ t _ => t
def Ex.kids : Ex → List Ex | .mk _ _ _ ks => ks
theorem Ex.eta (e : Ex) : e = .mk e.kind e.n e.name e.kids := by cases e; rfl

/-- An expression's value, kv its Kids. -/
def exV (e : Ex) (kv : Value) : Value := .agg #[.int .i64 e.kind, .int .i64 e.n, .string ⟨e.name.toArray⟩, kv]

/-- The slice reads as those expressions, all in blocks of which p holds. -/
inductive KR (w : World) (p : Nat → Prop) : Value → List Ex → Prop where
  | mk (ad : Option Addr) (cap : Nat) (ks : List Ex) (vi : Nat → Value) (hm : ks.length ≤ 2513169434843)
      (hc : 0 < ks.length → ∃ b o, ad = some ⟨b, o, none⟩ ∧ p b ∧ b < w.heap.size ∧ ∀ i (h : i < ks.length),
        w.cell? ⟨b, o + i * 4, none⟩ = some (.int .i64 ks[i].kind) ∧ w.cell? ⟨b, o + i * 4 + 1, none⟩ = some (.int .i64 ks[i].n) ∧ w.cell? ⟨b, o + i * 4 + 2, none⟩ = some (.string ⟨ks[i].name.toArray⟩) ∧ w.cell? ⟨b, o + i * 4 + 3, none⟩ = some (vi i))
      (hk : ∀ i (h : i < ks.length), KR w p (vi i) ks[i].kids) : KR w p (.slice ad ks.length cap) ks

theorem KR.keep {w w' : World} {p q : Nat → Prop} {v : Value} {ks : List Ex} (h : KR w p v ks) (hs : ∀ b, p b → b < w.heap.size → q b ∧ b < w'.heap.size ∧ ∀ o, w'.cell? ⟨b, o, none⟩ = w.cell? ⟨b, o, none⟩) : KR w' q v ks := by
  induction h with
  | mk ad cap ks vi hm hc hk ih =>
    refine .mk ad cap ks vi hm (fun h0 => ?_) ih
    obtain ⟨b, o, e, hp, hb, hcs⟩ := hc h0
    obtain ⟨s1, s2, s3⟩ := hs b hp hb
    refine ⟨b, o, e, s1, s2, fun i hi => ?_⟩
    obtain ⟨c0, c1, c2, c3⟩ := hcs i hi
    rw [s3, s3, s3, s3]
    exact ⟨c0, c1, c2, c3⟩

theorem KR.under {w w' : World} {p : Nat → Prop} {B : Nat} {v : Value} {ks : List Ex} (h : KR w p v ks) (hb : Below B w w') (hB : w.heap.size ≤ B) : KR w' p v ks :=
  h.keep fun b hp hlt => ⟨hp, Nat.lt_of_lt_of_le hlt hb.size, fun o => hb.cell (by show b < B; omega)⟩

theorem KR.nil (w : World) (p : Nat → Prop) : KR w p (.slice none 0 0) [] :=
  .mk none 0 [] (fun _ => .slice none 0 0) (by simp) (fun h => by simp at h) (fun i h => by simp at h)

theorem KR.shape {w : World} {p : Nat → Prop} {v : Value} {ks : List Ex} (h : KR w p v ks) : ∃ ad cap, v = .slice ad ks.length cap := by
  cases h with
  | mk ad cap _ vi hm hc hk => exact ⟨ad, cap, rfl⟩

/-- The slice reads as names and their numbers. -/
def QReads (w : World) (v : Value) (l : List (List UInt8 × Int)) : Prop :=
  ∃ ad cap, v = .slice ad l.length cap ∧ l.length ≤ maxLen ∧ (0 < l.length → ∃ b o, ad = some ⟨b, o, none⟩ ∧ b < w.heap.size ∧ ∀ i (h : i < l.length),
    w.cell? ⟨b, o + i * 2, none⟩ = some (.string ⟨l[i].1.toArray⟩) ∧ w.cell? ⟨b, o + i * 2 + 1, none⟩ = some (.int .i64 l[i].2))

theorem QReads.below {w w' : World} {B : Nat} {v : Value} {l : List (List UInt8 × Int)} (h : QReads w v l) (hb : Below B w w') (hB : w.heap.size ≤ B) : QReads w' v l := by
  obtain ⟨ad, cap, rfl, hm, hc⟩ := h
  refine ⟨ad, cap, rfl, hm, fun h0 => ?_⟩
  obtain ⟨b, o, rfl, hlt, hcell⟩ := hc h0
  refine ⟨b, o, rfl, Nat.lt_of_lt_of_le hlt hb.size, fun i hi => ?_⟩
  rw [hb.cell (by show b < B; omega), hb.cell (by show b < B; omega)]
  exact hcell i hi
theorem QReads.nil (w : World) : QReads w (.slice none 0 0) [] := ⟨none, 0, rfl, Nat.zero_le _, fun h => by simp at h⟩

def vaV (v : Va) : Value := .agg #[.string ⟨v.name.toArray⟩, .int .i64 v.n]
/-- What Eval answers. -/
def evalV : Except Int Va → Value
  | .ok v => .tuple #[vaV v, .int .i64 0]
  | .error x => .tuple #[.agg #[.string ⟨#[]⟩, .int .i64 0], .int .i64 x]

end Go.Proofs.YtgjmbjahgcndnaaGreatDoor.Xp

namespace Go.Proofs.YtgjmbjahgcndnaaGreatDoor.Xp
open Go.RowKit

def Pr (deep : Nat) (l : List Tok) (r : Except Int (Ex × List Tok)) : Prop := ∃ f, primeR f deep l = some r
def Lv (s deep : Nat) (l : List Tok) (r : Except Int (Ex × List Tok)) : Prop := ∃ f, climbR f s deep l = some r
def Mo (s deep : Nat) (e : Ex) (l : List Tok) (r : Except Int (Ex × List Tok)) : Prop := ∃ f, moreR f s deep e l = some r

theorem strength_le (s : List UInt8) : (strengthR s).1 ≤ 5 := by
  unfold strengthR
  repeat' split
  all_goals decide

theorem Lv.of {s deep : Nat} {l l' : List Tok} {e : Ex} {r} (h : Pr deep l (.ok (e, l'))) (hm : Mo s deep e l' r) : Lv s deep l r := by
  obtain ⟨f, hf⟩ := h
  obtain ⟨g, hg⟩ := hm
  refine ⟨f + g + 1, ?_⟩
  rw [climbR, prime_le (show f ≤ f + g by omega) hf]
  exact rest_le (by omega) hg
theorem Lv.bad {s deep : Nat} {l : List Tok} {x : Int} (h : Pr deep l (.error x)) : Lv s deep l (.error x) := by
  obtain ⟨f, hf⟩ := h
  exact ⟨f + 1, by rw [climbR, hf]⟩
theorem Mo.stop {s deep : Nat} {e : Ex} {l : List Tok} (h : (strengthR (signOf l)).1 < s) : Mo s deep e l (.ok (e, l)) := ⟨1, by rw [moreR, if_pos h]⟩
theorem Mo.bad {s deep : Nat} {e : Ex} {l : List Tok} {x : Int} (h : ¬ (strengthR (signOf l)).1 < s) (hl : Lv ((strengthR (signOf l)).1 + 1) deep l.tail (.error x)) : Mo s deep e l (.error x) := by
  obtain ⟨f, hf⟩ := hl
  exact ⟨f + 1, by rw [moreR, if_neg h, hf]⟩
theorem Mo.step {s deep : Nat} {e k : Ex} {l l' : List Tok} {r} (h : ¬ (strengthR (signOf l)).1 < s) (hl : Lv ((strengthR (signOf l)).1 + 1) deep l.tail (.ok (k, l')))
    (hm : Mo s deep (.mk (strengthR (signOf l)).2 0 [] [e, k]) l' r) : Mo s deep e l r := by
  obtain ⟨f, hf⟩ := hl
  obtain ⟨g, hg⟩ := hm
  refine ⟨f + g + 1, ?_⟩
  rw [moreR, if_neg h, climb_le (show f ≤ f + g by omega) hf]
  exact rest_le (by omega) hg

theorem Lv.six {deep : Nat} {l : List Tok} {r} (h : Pr deep l r) : Lv 6 deep l r := by
  cases r with
  | error x => exact .bad h
  | ok y => exact .of h (.stop (by have := strength_le (signOf y.2); omega))

theorem stop_all : ∀ (f : Nat), (∀ s deep l e r, climbR f s deep l = some (.ok (e, r)) → (strengthR (signOf r)).1 < s) ∧ (∀ s deep k l e r, moreR f s deep k l = some (.ok (e, r)) → (strengthR (signOf r)).1 < s)
  | 0 => ⟨fun _ _ _ _ _ h => by simp [climbR] at h, fun _ _ _ _ _ _ h => by simp [moreR] at h⟩
  | f + 1 => by
    obtain ⟨i1, i2⟩ := stop_all f
    refine ⟨fun s deep l e r h => ?_, fun s deep k l e r h => ?_⟩
    · rw [climbR] at h
      cases hp : primeR f deep l with
      | none => rw [hp] at h; cases h
      | some x =>
        rw [hp] at h
        cases x with
        | error e => cases h
        | ok y => exact i2 _ _ _ _ _ _ h
    · rw [moreR] at h
      by_cases h6 : (strengthR (signOf l)).1 < s
      · rw [if_pos h6] at h
        injection h with h
        injection h with h
        injection h with h1 h2
        subst h1 h2
        exact h6
      rw [if_neg h6] at h
      cases hp : climbR f ((strengthR (signOf l)).1 + 1) deep l.tail with
      | none => rw [hp] at h; cases h
      | some x =>
        rw [hp] at h
        cases x with
        | error e => cases h
        | ok y => exact i2 _ _ _ _ _ _ h
theorem Lv.stop {s deep : Nat} {l l' : List Tok} {e : Ex} (h : Lv s deep l (.ok (e, l'))) : (strengthR (signOf l')).1 < s := by
  obtain ⟨f, hf⟩ := h
  exact (stop_all f).1 _ _ _ _ _ hf

theorem more_on : ∀ (f s deep : Nat) (e : Ex) (l : List Tok),
    (∀ x, moreR f (s + 1) deep e l = some (.error x) → Mo s deep e l (.error x)) ∧
    (∀ k l' r, moreR f (s + 1) deep e l = some (.ok (k, l')) → Mo s deep k l' r → Mo s deep e l r)
  | 0, _, _, _, _ => ⟨fun _ h => by simp [moreR] at h, fun _ _ _ h => by simp [moreR] at h⟩
  | f + 1, s, deep, e, l => by
    by_cases h6 : (strengthR (signOf l)).1 < s + 1
    · refine ⟨fun x h => ?_, fun k l' r h hm => ?_⟩
      · rw [moreR, if_pos h6] at h; cases h
      · rw [moreR, if_pos h6] at h
        injection h with h
        injection h with h
        injection h with h1 h2
        subst h1 h2
        exact hm
    · have h7 : ¬ (strengthR (signOf l)).1 < s := by omega
      refine ⟨fun x h => ?_, fun k l' r h hm => ?_⟩
      · rw [moreR, if_neg h6] at h
        cases hp : climbR f ((strengthR (signOf l)).1 + 1) deep l.tail with
        | none => rw [hp] at h; cases h
        | some y =>
          rw [hp] at h
          cases y with
          | error z => injection h with h; exact h ▸ .bad h7 ⟨f, hp⟩
          | ok y => exact .step h7 ⟨f, hp⟩ ((more_on f s deep _ _).1 _ h)
      · rw [moreR, if_neg h6] at h
        cases hp : climbR f ((strengthR (signOf l)).1 + 1) deep l.tail with
        | none => rw [hp] at h; cases h
        | some y =>
          rw [hp] at h
          cases y with
          | error z => cases h
          | ok y => exact .step h7 ⟨f, hp⟩ ((more_on f s deep _ _).2 _ _ _ h hm)

theorem Lv.err {s deep : Nat} {l : List Tok} {x : Int} (h : Lv (s + 1) deep l (.error x)) : Lv s deep l (.error x) := by
  obtain ⟨f, hf⟩ := h
  cases f with
  | zero => simp [climbR] at hf
  | succ f =>
    rw [climbR] at hf
    cases hp : primeR f deep l with
    | none => rw [hp] at hf; cases hf
    | some y =>
      rw [hp] at hf
      cases y with
      | error z => injection hf with hf; exact hf ▸ .bad ⟨f, hp⟩
      | ok y => exact .of ⟨f, hp⟩ ((more_on f s deep _ _).1 _ hf)
theorem Lv.on {s deep : Nat} {l l' : List Tok} {e : Ex} {r} (h : Lv (s + 1) deep l (.ok (e, l'))) (hm : Mo s deep e l' r) : Lv s deep l r := by
  obtain ⟨f, hf⟩ := h
  cases f with
  | zero => simp [climbR] at hf
  | succ f =>
    rw [climbR] at hf
    cases hp : primeR f deep l with
    | none => rw [hp] at hf; cases hf
    | some y =>
      rw [hp] at hf
      cases y with
      | error z => cases hf
      | ok y => exact .of ⟨f, hp⟩ ((more_on f s deep _ _).2 _ _ _ hf hm)

theorem Pr.deep {deep : Nat} {l : List Tok} (h : 6 < deep) : Pr deep l (.error 10) := ⟨1, by rw [primeR, if_pos h]⟩
theorem Pr.neg {deep : Nat} {l : List Tok} {k : Ex} {r : List Tok} (h : ¬ 6 < deep) (hs : signOf l = [45]) (hk : Pr (deep + 1) l.tail (.ok (k, r))) : Pr deep l (.ok (.mk 3 0 [] [k], r)) := by
  obtain ⟨f, hf⟩ := hk
  exact ⟨f + 1, by rw [primeR, if_neg h, if_pos hs, hf]⟩
theorem Pr.not {deep : Nat} {l : List Tok} {k : Ex} {r : List Tok} (h : ¬ 6 < deep) (hs : signOf l = [126]) (hk : Pr (deep + 1) l.tail (.ok (k, r))) : Pr deep l (.ok (.mk 4 0 [] [k], r)) := by
  obtain ⟨f, hf⟩ := hk
  exact ⟨f + 1, by rw [primeR, if_neg h, if_neg (by rw [hs]; decide), if_pos hs, hf]⟩
theorem Pr.one {deep : Nat} {l : List Tok} {x : Int} (h : ¬ 6 < deep) (hs : signOf l = [45] ∨ signOf l = [126]) (hk : Pr (deep + 1) l.tail (.error x)) : Pr deep l (.error x) := by
  obtain ⟨f, hf⟩ := hk
  rcases hs with hs | hs
  · exact ⟨f + 1, by rw [primeR, if_neg h, if_pos hs, hf]⟩
  · exact ⟨f + 1, by rw [primeR, if_neg h, if_neg (by rw [hs]; decide), if_pos hs, hf]⟩
theorem Pr.brack {deep : Nat} {l : List Tok} {k : Ex} {r : List Tok} (h : ¬ 6 < deep) (hs : signOf l = [40]) (hk : Lv 1 (deep + 1) l.tail (.ok (k, r))) (hr : signOf r = [41]) : Pr deep l (.ok (k, r.tail)) := by
  obtain ⟨f, hf⟩ := hk
  refine ⟨f + 1, ?_⟩
  rw [primeR, if_neg h, if_neg (by rw [hs]; decide), if_neg (by rw [hs]; decide), if_pos hs, hf]
  simp only [if_pos hr]
theorem Pr.unshut {deep : Nat} {l : List Tok} {k : Ex} {r : List Tok} (h : ¬ 6 < deep) (hs : signOf l = [40]) (hk : Lv 1 (deep + 1) l.tail (.ok (k, r))) (hr : ¬ signOf r = [41]) : Pr deep l (.error 2) := by
  obtain ⟨f, hf⟩ := hk
  refine ⟨f + 1, ?_⟩
  rw [primeR, if_neg h, if_neg (by rw [hs]; decide), if_neg (by rw [hs]; decide), if_pos hs, hf]
  simp only [if_neg hr]
theorem Pr.inner {deep : Nat} {l : List Tok} {x : Int} (h : ¬ 6 < deep) (hs : signOf l = [40]) (hk : Lv 1 (deep + 1) l.tail (.error x)) : Pr deep l (.error x) := by
  obtain ⟨f, hf⟩ := hk
  exact ⟨f + 1, by rw [primeR, if_neg h, if_neg (by rw [hs]; decide), if_neg (by rw [hs]; decide), if_pos hs, hf]⟩
theorem Pr.leaf {deep : Nat} {l : List Tok} (h : ¬ 6 < deep) (h1 : ¬ signOf l = [45]) (h2 : ¬ signOf l = [126]) (h3 : ¬ signOf l = [40]) : Pr deep l (leafR l) := ⟨1, by rw [primeR, if_neg h, if_neg h1, if_neg h2, if_neg h3]⟩

end Go.Proofs.YtgjmbjahgcndnaaGreatDoor.Xp

namespace Go.Proofs.YtgjmbjahgcndnaaGreatDoor.Xp
open Go.RowKit

theorem sgn_sgn (n : Int) : sgn (sgn n) = sgn n := by unfold sgn wrap32; omega
theorem sgn_zero : sgn 0 = 0 := by unfold sgn wrap32; omega
theorem no67 {p : Prop} : ¬ ((6 : Int) = 7 ∧ p) := fun c => absurd c.1 (by decide)
theorem sgn_of {n : Int} (h : -2147483648 ≤ n ∧ n < 2147483648) : sgn n = n := by unfold sgn wrap32; omega
theorem sgn_is (n : Int) : -2147483648 ≤ sgn n ∧ sgn n < 2147483648 := by unfold sgn wrap32; omega

theorem wrap_i32 (n : Int) : IntKind.i32.wrap n = wrap32 n := by
  simp [IntKind.wrap, IntKind.bits, IntKind.signed, wrap32]
  split <;> omega

theorem bits_i32 (op : BinOp) (x y : Int) : sgn (bits op .i32 x y) = bits op .i32 x y := by
  unfold bits
  rw [wrap_i32]
  exact sgn_sgn _

theorem opR_sgn (k x y : Int) : opR k x y = sgn (opR k x y) := by
  unfold opR
  split
  · exact (sgn_sgn _).symm
  split
  · exact (sgn_sgn _).symm
  split
  · exact (sgn_sgn _).symm
  split
  · exact (sgn_sgn _).symm
  split
  · exact (sgn_sgn _).symm
  split
  · exact (bits_i32 _ _ _).symm
  · exact (bits_i32 _ _ _).symm

/-- What a name's number makes of what came of an expression. -/
def Moved (name : List UInt8) (n : Int) (a b : Va) : Prop :=
  if name = [] then b.name = a.name else if a.name = name then b = ⟨[], sgn (a.n + n)⟩ else b = a

theorem moved_plain {name : List UInt8} {n : Int} {a b : Va} (h : Moved name n a b) (ha : a.name = []) : b.name = [] ∧ (name ≠ [] → b = a) := by
  unfold Moved at h
  by_cases hn : name = []
  · rw [if_pos hn] at h
    exact ⟨h.trans ha, fun h1 => absurd hn h1⟩
  · rw [if_neg hn, if_neg (by rw [ha]; exact fun e => hn e.symm)] at h
    exact ⟨h ▸ ha, fun _ => h⟩

theorem moved_of {name : List UInt8} {n : Int} {a b : Va} (h0 : name = [] → b.name = a.name) (h1 : name ≠ [] → a.name = name → b = ⟨[], sgn (a.n + n)⟩) (h2 : name ≠ [] → a.name ≠ name → b = a) : Moved name n a b := by
  unfold Moved
  by_cases hn : name = []
  · rw [if_pos hn]; exact h0 hn
  · rw [if_neg hn]
    by_cases ha : a.name = name
    · rw [if_pos ha]; exact h1 hn ha
    · rw [if_neg ha]; exact h2 hn ha

theorem look_one (name nm : List UInt8) (n : Int) : lookE nm [(name, n)] = if name = nm then some n else none := rfl

theorem va_eta (a : Va) : a = ⟨a.name, a.n⟩ := rfl

/-- Two that come to a place, or a number. -/
theorem moved_two {name : List UInt8} {n k : Int} {a1 a2 b1 b2 : Va} {p : List UInt8} (h1 : Moved name n a1 b1) (h2 : Moved name n a2 b2) (s1 : a1.n = sgn a1.n) (s2 : a2.n = sgn a2.n) (hp : placeR k a1.name a2.name = some p) :
    ∃ q, placeR k b1.name b2.name = some q ∧ Moved name n ⟨p, opR k a1.n a2.n⟩ ⟨q, opR k b1.n b2.n⟩ := by
  unfold placeR at hp
  by_cases c0 : a1.name = [] ∧ a2.name = []
  · rw [if_pos c0] at hp
    injection hp with hp
    subst hp
    obtain ⟨e1, f1⟩ := moved_plain h1 c0.1
    obtain ⟨e2, f2⟩ := moved_plain h2 c0.2
    refine ⟨[], by unfold placeR; rw [if_pos ⟨e1, e2⟩], moved_of (fun _ => rfl) (fun hn e => absurd e.symm hn) (fun hn _ => by rw [f1 hn, f2 hn])⟩
  rw [if_neg c0] at hp
  by_cases c1 : k = 7 ∧ a1.name = a2.name
  · rw [if_pos c1] at hp
    injection hp with hp
    subst hp
    obtain ⟨rfl, he⟩ := c1
    have hb : b1.name = b2.name := by
      unfold Moved at h1 h2
      by_cases hn : name = []
      · rw [if_pos hn] at h1 h2; rw [h1, h2, he]
      · rw [if_neg hn] at h1 h2
        by_cases ha : a1.name = name
        · rw [if_pos ha] at h1; rw [if_pos (he ▸ ha)] at h2; rw [h1, h2]
        · rw [if_neg ha] at h1; rw [if_neg (he ▸ ha)] at h2; rw [h1, h2, he]
    refine ⟨[], ?_, moved_of (fun _ => rfl) (fun hn e => absurd e.symm hn) (fun hn _ => ?_)⟩
    · unfold placeR
      by_cases c : b1.name = [] ∧ b2.name = []
      · rw [if_pos c]
      · rw [if_neg c, if_pos ⟨rfl, hb⟩]
    · unfold Moved at h1 h2
      rw [if_neg hn] at h1 h2
      by_cases ha : a1.name = name
      · rw [if_pos ha] at h1
        rw [if_pos (he ▸ ha)] at h2
        rw [h1, h2]
        congr 1
        simp only [opR]
        simp (config := { decide := true }) only [if_false, if_true]
        unfold sgn wrap32
        omega
      · rw [if_neg ha] at h1
        rw [if_neg (he ▸ ha)] at h2
        rw [h1, h2]
  rw [if_neg c1] at hp
  by_cases c2 : k = 7 ∧ a2.name = []
  · rw [if_pos c2] at hp
    injection hp with hp
    subst hp
    obtain ⟨rfl, he⟩ := c2
    obtain ⟨e2, f2⟩ := moved_plain h2 he
    unfold Moved at h1
    by_cases hn : name = []
    · rw [if_pos hn] at h1
      refine ⟨a1.name, ?_, moved_of (fun _ => rfl) (fun h => absurd hn h) (fun h => absurd hn h)⟩
      unfold placeR
      rw [if_neg (by rw [h1, e2]; exact fun c => c0 ⟨c.1, he⟩), if_neg (by rw [h1, e2]; exact fun c => c1 ⟨rfl, by rw [he]; exact c.2⟩), if_pos ⟨rfl, e2⟩, h1]
    · rw [if_neg hn] at h1
      by_cases ha : a1.name = name
      · rw [if_pos ha] at h1
        refine ⟨[], ?_, moved_of (fun h => absurd h hn) (fun _ _ => ?_) (fun _ h => absurd ha h)⟩
        · unfold placeR
          rw [if_pos ⟨by rw [h1], e2⟩]
        · rw [h1, f2 hn]
          congr 1
          simp only [opR]
          simp (config := { decide := true }) only [if_false, if_true]
          unfold sgn wrap32
          omega
      · rw [if_neg ha] at h1
        refine ⟨a1.name, ?_, moved_of (fun h => absurd h hn) (fun _ h => absurd h ha) (fun _ _ => by rw [h1, f2 hn])⟩
        unfold placeR
        rw [h1, if_neg (by rw [e2]; exact fun c => c0 ⟨c.1, he⟩), if_neg (by rw [e2]; exact fun c => c1 ⟨rfl, by rw [he]; exact c.2⟩), if_pos ⟨rfl, e2⟩]
  rw [if_neg c2] at hp
  by_cases c3 : k = 6 ∧ a1.name = []
  · rw [if_pos c3] at hp
    injection hp with hp
    subst hp
    obtain ⟨rfl, he⟩ := c3
    obtain ⟨e1, f1⟩ := moved_plain h1 he
    have hne : a2.name ≠ [] := fun h => c0 ⟨he, h⟩
    unfold Moved at h2
    by_cases hn : name = []
    · rw [if_pos hn] at h2
      refine ⟨a2.name, ?_, moved_of (fun _ => rfl) (fun h => absurd hn h) (fun h => absurd hn h)⟩
      unfold placeR
      rw [if_neg (by rw [h2]; exact fun c => hne c.2), if_neg no67, if_neg no67, if_pos ⟨rfl, e1⟩, h2]
    · rw [if_neg hn] at h2
      by_cases ha : a2.name = name
      · rw [if_pos ha] at h2
        refine ⟨[], ?_, moved_of (fun h => absurd h hn) (fun _ _ => ?_) (fun _ h => absurd ha h)⟩
        · unfold placeR
          rw [if_pos ⟨e1, by rw [h2]⟩]
        · rw [h2, f1 hn]
          congr 1
          simp only [opR]
          simp (config := { decide := true }) only [if_false, if_true]
          unfold sgn wrap32
          omega
      · rw [if_neg ha] at h2
        refine ⟨a2.name, ?_, moved_of (fun h => absurd h hn) (fun _ h => absurd h ha) (fun _ _ => by rw [h2, f1 hn])⟩
        unfold placeR
        rw [h2, if_neg (fun c => hne c.2), if_neg no67, if_neg no67, if_pos ⟨rfl, e1⟩]
  rw [if_neg c3] at hp
  by_cases c4 : k = 6 ∧ a2.name = []
  · rw [if_pos c4] at hp
    injection hp with hp
    subst hp
    obtain ⟨rfl, he⟩ := c4
    obtain ⟨e2, f2⟩ := moved_plain h2 he
    have hne : a1.name ≠ [] := fun h => c0 ⟨h, he⟩
    unfold Moved at h1
    by_cases hn : name = []
    · rw [if_pos hn] at h1
      refine ⟨a1.name, ?_, moved_of (fun _ => rfl) (fun h => absurd hn h) (fun h => absurd hn h)⟩
      unfold placeR
      rw [if_neg (by rw [h1]; exact fun c => hne c.1), if_neg no67, if_neg no67, if_neg (by rw [h1]; exact fun c => hne c.2), if_pos ⟨rfl, e2⟩, h1]
    · rw [if_neg hn] at h1
      by_cases ha : a1.name = name
      · rw [if_pos ha] at h1
        refine ⟨[], ?_, moved_of (fun h => absurd h hn) (fun _ _ => ?_) (fun _ h => absurd ha h)⟩
        · unfold placeR
          rw [if_pos ⟨by rw [h1], e2⟩]
        · rw [h1, f2 hn]
          congr 1
          simp only [opR]
          simp (config := { decide := true }) only [if_false, if_true]
          unfold sgn wrap32
          omega
      · rw [if_neg ha] at h1
        refine ⟨a1.name, ?_, moved_of (fun h => absurd h hn) (fun _ h => absurd h ha) (fun _ _ => by rw [h1, f2 hn])⟩
        unfold placeR
        rw [h1, if_neg (fun c => hne c.1), if_neg no67, if_neg no67, if_neg (fun c => hne c.2), if_pos ⟨rfl, e2⟩]
  rw [if_neg c4] at hp
  cases hp

/-- Each is what the other one has become. -/
inductive MovedL (name : List UInt8) (n : Int) : List Va → List Va → Prop where
  | nil : MovedL name n [] []
  | cons {a b : Va} {r s : List Va} : Moved name n a b → MovedL name n r s → MovedL name n (a :: r) (b :: s)

theorem MovedL.len {name : List UInt8} {n : Int} {a b : List Va} (h : MovedL name n a b) : a.length = b.length := by
  induction h with
  | nil => rfl
  | cons _ _ ih => simp [ih]

theorem moved_comb {name nm : List UInt8} {n m k : Int} {vs us : List Va} {a : Va} (hv : ∀ v, v ∈ vs → v.n = sgn v.n) (h : MovedL name n vs us) (hc : combR [] k m nm vs = .ok a) :
    a.n = sgn a.n ∧ ∃ b, combR [(name, n)] k m nm us = .ok b ∧ Moved name n a b := by
  unfold combR at hc ⊢
  cases h with
  | nil =>
    by_cases h1 : k = 1
    · rw [if_pos ⟨h1, rfl⟩] at hc ⊢
      injection hc with hc
      subst hc
      exact ⟨(sgn_sgn _).symm, _, rfl, moved_of (fun _ => rfl) (fun hn e => absurd e.symm hn) (fun _ _ => rfl)⟩
    · rw [if_neg (fun c => h1 c.1)] at hc ⊢
      by_cases h2 : k = 2
      · rw [if_pos ⟨h2, rfl⟩] at hc ⊢
        simp only [lookE] at hc
        injection hc with hc
        subst hc
        rw [look_one]
        refine ⟨sgn_zero.symm, ?_⟩
        by_cases hn : name = nm
        · rw [if_pos hn]
          refine ⟨_, rfl, moved_of (fun h => by rw [← hn, h]) (fun _ _ => by rw [Int.zero_add]) (fun _ h => absurd hn.symm h)⟩
        · rw [if_neg hn]
          exact ⟨_, rfl, moved_of (fun _ => rfl) (fun _ h => absurd h.symm hn) (fun _ _ => rfl)⟩
      · rw [if_neg (fun c => h2 c.1)] at hc
        cases hc
  | cons h1 hr =>
    rename_i a1 b1 r s
    rw [if_neg (fun c => by cases c.2), if_neg (fun c => by cases c.2)] at hc ⊢
    cases hr with
    | nil =>
      simp only at hc ⊢
      by_cases hk : k = 3 ∨ k = 4
      · rw [if_pos hk] at hc ⊢
        by_cases hp : a1.name = []
        · rw [if_pos hp] at hc
          injection hc with hc
          subst hc
          obtain ⟨e1, f1⟩ := moved_plain h1 hp
          rw [if_pos e1]
          exact ⟨(sgn_sgn _).symm, _, rfl, moved_of (fun _ => rfl) (fun hn e => absurd e.symm hn) (fun hn _ => by rw [f1 hn])⟩
        · rw [if_neg hp] at hc
          cases hc
      · rw [if_neg hk] at hc
        cases hc
    | cons h2 hr =>
      rename_i a2 b2 r s
      cases hr with
      | nil =>
        simp only at hc ⊢
        by_cases hk : 5 ≤ k ∧ k ≤ 11
        · rw [if_pos hk] at hc ⊢
          cases hp : placeR k a1.name a2.name with
          | none => rw [hp] at hc; cases hc
          | some p =>
            rw [hp] at hc
            injection hc with hc
            subst hc
            obtain ⟨q, hq, hm⟩ := moved_two h1 h2 (hv a1 (by simp)) (hv a2 (by simp)) hp
            rw [hq]
            exact ⟨opR_sgn _ _ _, _, rfl, hm⟩
        · rw [if_neg hk] at hc
          cases hc
      | cons h3 hr =>
        simp only at hc
        cases hc

mutual
theorem moves_e (name : List UInt8) (n : Int) : ∀ (e : Ex) (a : Va), evalR [] e = .ok a → a.n = sgn a.n ∧ ∃ b, evalR [(name, n)] e = .ok b ∧ Moved name n a b
  | .mk kind m nm kids, a, h => by
    rw [evalR] at h
    cases hk : evalL [] kids with
    | error e => rw [hk] at h; cases h
    | ok vs =>
      rw [hk] at h
      obtain ⟨hs, us, hu, hr⟩ := moves_l name n kids vs hk
      obtain ⟨h1, b, h2, h3⟩ := moved_comb hs hr h
      exact ⟨h1, b, by rw [evalR, hu]; exact h2, h3⟩
theorem moves_l (name : List UInt8) (n : Int) : ∀ (kids : List Ex) (vs : List Va), evalL [] kids = .ok vs → (∀ v, v ∈ vs → v.n = sgn v.n) ∧ ∃ us, evalL [(name, n)] kids = .ok us ∧ MovedL name n vs us
  | [], vs, h => by
    rw [evalL] at h
    injection h with h
    subst h
    exact ⟨fun v hv => by simp at hv, [], by rw [evalL], .nil⟩
  | k :: r, vs, h => by
    rw [evalL] at h
    cases hk : evalR [] k with
    | error e => rw [hk] at h; cases h
    | ok v =>
      rw [hk] at h
      cases hr : evalL [] r with
      | error e => rw [hr] at h; cases h
      | ok ws =>
        rw [hr] at h
        injection h with h
        subst h
        obtain ⟨s1, b, hb, hm⟩ := moves_e name n k v hk
        obtain ⟨s2, us, hu, hl⟩ := moves_l name n r ws hr
        refine ⟨fun x hx => ?_, b :: us, by rw [evalL, hb, hu], .cons hm hl⟩
        rcases List.mem_cons.1 hx with rfl | hx
        · exact s1
        · exact s2 x hx
end

end Go.Proofs.YtgjmbjahgcndnaaGreatDoor.Xp
