/- What is taken over from the texts of stage 2. -/
import Derived.Test.YtagkmgdjkailkaaGreatDoorRows
import Derived.WalkKit
import Derived.WalkSpells
import Derived.WalkLawsBesides
import Derived.Deep.RegionHeld3
import Derived.BigQuiet
import Derived.Lib.ParseIntB
import Derived.Lib.Strings
import Derived.Lib.Split
import Derived.Lib.Join
import Derived.Shelf.Abstract
import Derived.Laws.EntriesVeiled
import Derived.Maps.AppendAt
import Derived.Deep.DeepCutAuto
import Derived.Lib.ConvBytes
import Derived.Lib.ParseIntBMem
import Derived.Lib.AtoiErrMem
import Derived.Lib.Hide
import Derived.Laws.Strings3
import Derived.Laws.Closers25
import Derived.Laws.Closers25b
import Derived.BigCall
import Derived.BigGuard
import Derived.WalkSmall
import Derived.Lib.IndexBytes
import Derived.Lib.SmallJoins
import Derived.Laws.CopyOwn
import Derived.Deep.OwnRows
import Derived.Lib.ItoaMem
import Derived.Lib.AppendIntMem
import Derived.Lib.ItoaLen
import Derived.Laws.BytesArg
import Derived.Lib.SplitLaws
import Derived.Deep.AppendSrc
namespace Go.Proofs.YtagkmgdjkailkaaGreatDoor.Xp
open Go.RowKit


theorem ret_bool {a b : Bool} (h : a = b) : Ending.returned (.bool a) = .returned (.bool b) := by rw [h]

theorem ret_int {k : IntKind} {a b : Int} (h : a = b) : Ending.returned (.int k a) = .returned (.int k b) := by rw [h]

/-- What bytes are. -/
def letterB (c : Int) : Bool := decide (97 ≤ c ∧ c ≤ 122 ∨ 65 ≤ c ∧ c ≤ 90 ∨ c = 95 ∨ c = 46)

def digitB (c : Int) : Bool := decide (48 ≤ c ∧ c ≤ 57)

def blankB (c : Int) : Bool := decide (c = 32 ∨ c = 9 ∨ c = 13)

def wordB (c : Int) : Bool := letterB c || digitB c || decide (c = 47)

def numB (c : Int) : Bool := digitB c || letterB c && decide (c ≠ 46)

def nameB (c : Int) : Bool := decide (c ≠ 46) && (letterB c || digitB c)

theorem digit_any (c : Int) (w : World) :
    Calls Tryz.prog 68 #[.int .u8 c] w fun e w' => e = .returned (.bool (digitB c)) ∧ w' = w := by
  by_cases h1 : 48 ≤ c
  all_goals by_cases h2 : c ≤ 57
  all_goals
    go_enter Tryz.func68, Tryz.ntmps68
    go_wp2
    go_ret
    exact ⟨ret_bool (by simp [digitB]; omega), rfl⟩

theorem letter_any (c : Int) (w : World) :
    Calls Tryz.prog 66 #[.int .u8 c] w fun e w' => e = .returned (.bool (letterB c)) ∧ w' = w := by
  by_cases h1 : 97 ≤ c
  all_goals by_cases h2 : c ≤ 122
  all_goals by_cases h3 : 65 ≤ c
  all_goals by_cases h4 : c ≤ 90
  all_goals by_cases h5 : c = 95
  all_goals by_cases h6 : c = 46
  all_goals first
    | (exfalso; omega)
    | (have e5 : (c == 95) = decide (c = 95) := by rfl
       have e6 : (c == 46) = decide (c = 46) := by rfl
       simp only [h5, h6] at e5 e6
       go_enter Tryz.func66, Tryz.ntmps66
       go_wp2
       go_ret
       exact ⟨ret_bool (by first | (simp [letterB]; omega) | simp [letterB]), rfl⟩)


structure Tok where
  kind : Int
  n : Int
  text : List UInt8

def Tok.cells (t : Tok) : List Value := [.int .i64 t.kind, .int .i64 t.n, .string ⟨t.text.toArray⟩]

def tcells (ts : List Tok) : List Value := ts.flatMap Tok.cells

def pb (p : Int → Bool) (c : UInt8) : Bool := p (c.toNat : Int)

def signB (c : Int) : Bool := decide (c = 58 ∨ c = 44 ∨ c = 35 ∨ c = 64 ∨ c = 40 ∨ c = 41 ∨ c = 43 ∨ c = 45 ∨ c = 42 ∨ c = 38 ∨ c = 124 ∨ c = 126 ∨ c = 61)

/-- How many bytes the sign has. -/
def signN (l : List UInt8) : Nat :=
  if Lib.hasPrefix l [60, 60] = true ∨ Lib.hasPrefix l [62, 62] = true then 2
  else match l with
    | [] => 0
    | c :: _ => if pb signB c = true then 1 else 0

def digV (base c : Nat) : Option Nat :=
  if 48 ≤ c ∧ c ≤ 57 then some (c - 48)
  else if base = 16 ∧ 97 ≤ c ∧ c ≤ 102 then some (c - 87)
  else if base = 16 ∧ 65 ≤ c ∧ c ≤ 70 then some (c - 55)
  else none

def parseN (base : Nat) : Nat → List UInt8 → Option Nat
  | n, [] => some n
  | n, c :: r => match digV base c.toNat with
    | none => none
    | some d => if n * base + d ≤ 4294967295 then parseN base (n * base + d) r else none

def parseU (base : Nat) (l : List UInt8) : Option Nat := if l = [] then none else parseN base 0 l

def numL (l : List UInt8) : Option Nat := if Lib.hasPrefix l [48, 120] = true then parseU 16 (l.drop 2) else parseU 10 l

inductive Nxt where
  | fin
  | bad
  | tok (t : Tok) (r : List UInt8)

/-- The token at the beginning, where no blank is. -/
def nextT (l : List UInt8) : Nxt :=
  match l with
  | [] => .fin
  | c :: _ =>
    if pb letterB c = true then .tok ⟨1, 0, l.takeWhile (pb wordB)⟩ (l.dropWhile (pb wordB))
    else if pb digitB c = true then
      match numL (l.takeWhile (pb numB)) with
      | none => .bad
      | some n => .tok ⟨2, n, []⟩ (l.dropWhile (pb numB))
    else if signN l = 0 then .bad
    else .tok ⟨3, 0, l.take (signN l)⟩ (l.drop (signN l))

def toksF : Nat → List UInt8 → Option (List Tok)
  | 0, _ => none
  | f + 1, l => match nextT (l.dropWhile (pb blankB)) with
    | .fin => some []
    | .bad => none
    | .tok t r => (toksF f r).map (t :: ·)

def toks (l : List UInt8) : Option (List Tok) := toksF (l.length + 1) l

theorem dropWhile_len {p : UInt8 → Bool} : ∀ l : List UInt8, (l.dropWhile p).length ≤ l.length
  | [] => by simp
  | c :: r => by
    have := dropWhile_len (p := p) r
    simp only [List.dropWhile_cons]
    split <;> simp <;> omega

theorem nextT_len {l r : List UInt8} {t : Tok} (h : nextT l = .tok t r) : r.length < l.length := by
  unfold nextT at h
  split at h
  · cases h
  · rename_i c tl
    split at h
    · rename_i hc
      injection h with h1 h2
      subst h2
      have hw : pb wordB c = true := by simp [pb, wordB] at hc ⊢; simp [hc]
      rw [List.dropWhile_cons, if_pos hw]
      have := dropWhile_len (p := pb wordB) tl
      simp; omega
    · split at h
      · rename_i hc
        split at h
        · cases h
        · injection h with h1 h2
          subst h2
          have hw : pb numB c = true := by simp [pb, numB] at hc ⊢; simp [hc]
          rw [List.dropWhile_cons, if_pos hw]
          have := dropWhile_len (p := pb numB) tl
          simp; omega
      · split at h
        · cases h
        · injection h with h1 h2
          subst h2
          simp; omega

theorem toksF_more : ∀ (f g : Nat) (l : List UInt8), l.length < f → l.length < g → toksF f l = toksF g l
  | 0, _, _, h, _ => by omega
  | _, 0, _, _, h => by omega
  | f + 1, g + 1, l, hf, hg => by
    unfold toksF
    have hd := dropWhile_len (p := pb blankB) l
    split
    · rfl
    · rfl
    · rename_i t r hn
      have := nextT_len hn
      rw [toksF_more f g r (by omega) (by omega)]

theorem toks_eq (l : List UInt8) : toks l = match nextT (l.dropWhile (pb blankB)) with
    | .fin => some []
    | .bad => none
    | .tok t r => (toks r).map (t :: ·) := by
  unfold toks
  rw [toksF]
  have hd := dropWhile_len (p := pb blankB) l
  split
  · rfl
  · rfl
  · rename_i t r hn
    have := nextT_len hn
    rw [toksF_more l.length (r.length + 1) r (by omega) (by omega)]

theorem toks_tok {l r : List UInt8} {t : Tok} (h : nextT (l.dropWhile (pb blankB)) = .tok t r) : toks l = (toks r).map (t :: ·) := by rw [toks_eq, h]

/-- What stands ahead of a remark. -/
def code (l : List UInt8) : List UInt8 := l.takeWhile (· != 59)

/-- What a line's tokens are. -/
def lineToks (l : List UInt8) : Option (List Tok) := if 80 < l.length then none else toks (code l)

def lineErr (l : List UInt8) : Int := if 80 < l.length then 4 else if (toks (code l)).isSome then 0 else 2

def lineList (l : List UInt8) : List Tok := (lineToks l).getD []


theorem index9 (s : ByteArray) (k : Nat) (i : Int) (hi : i = (k : Int)) (hk : k < s.size) (w : World) : (Instr.index 9 (.string s) (.int .i64 i)).run Tryz.prog w = .ok (.int .u8 (s[k].toNat : Int)) w := by
  subst hi
  simp [Instr.index, run_underlying Tryz.underlying9, asIntOf, hk]

def Enters1 (f : FuncId) : Prop := ∀ args w, (callFunc f args).run Tryz.prog w = .ok (.enter f args) w

def Asks (f : FuncId) (p : Int → Bool) : Prop := ∀ (c : UInt8) (w : World), Calls Tryz.prog f #[.int .u8 (c.toNat : Int)] w fun e w' => e = .returned (.bool (p c.toNat)) ∧ w' = w

def spanL (p : Int → Bool) (l : List UInt8) : Nat := (l.takeWhile (pb p)).length

theorem drop_at {s : ByteArray} {k : Nat} (hk : k < s.size) : s.data.toList.drop k = s[k] :: s.data.toList.drop (k + 1) := by
  have h : k < s.data.toList.length := by simpa using hk
  rw [List.drop_eq_getElem_cons h]
  rfl

theorem spanL_yes {p : Int → Bool} {s : ByteArray} {k : Nat} (hk : k < s.size) (hp : p s[k].toNat = true) (h : spanL p s.data.toList = k + spanL p (s.data.toList.drop k)) :
    spanL p s.data.toList = (k + 1) + spanL p (s.data.toList.drop (k + 1)) := by
  rw [h, drop_at hk]
  have hp' : pb p s[k] = true := hp
  simp only [spanL, List.takeWhile_cons, hp', if_true, List.length_cons]
  omega

theorem spanL_no {p : Int → Bool} {s : ByteArray} {k : Nat} (hk : k < s.size) (hp : p s[k].toNat = false) (h : spanL p s.data.toList = k + spanL p (s.data.toList.drop k)) :
    spanL p s.data.toList = k := by
  rw [h, drop_at hk]
  have hp' : pb p s[k] = false := hp
  simp [spanL, hp']

theorem spanL_end {p : Int → Bool} {s : ByteArray} {k : Nat} (hk : s.size ≤ k) (h : spanL p s.data.toList = k + spanL p (s.data.toList.drop k)) : spanL p s.data.toList = k := by
  rw [h, List.drop_eq_nil_of_le (by simpa using hk)]
  simp [spanL]

theorem span_any (s : ByteArray) (f : FuncId) (p : Int → Bool) (w : World) (hs : s.size ≤ 9223372036854775000) (he : Enters1 f) (hp : Asks f p) :
    Calls Tryz.prog 63 #[.string s, .func (.func f) #[] #[]] w fun e w' => e = .returned (.int .i64 (spanL p s.data.toList)) ∧ w' = w := by
  unfold Enters1 at he
  go_enter Tryz.func63, Tryz.ntmps63
  go_wp2
  go_loop [5] (fun i => ∃ k : Nat, k ≤ s.size ∧ i = .int .i64 k ∧ Hid (spanL p s.data.toList = k + spanL p (s.data.toList.drop k))) (fun i => s.size - (intOf i).toNat)
  case atStart => exact ⟨0, Nat.zero_le _, rfl, by simp [Hid]⟩
  case round =>
    obtain ⟨k, hk, rfl, HS⟩ := hrel
    by_cases hlt : k < s.size
    · have hk1 : (k : Int) < s.size := by omega
      have hidx := index9 s k k rfl hlt
      cases hb : p (s[k].toNat : Int)
      · go_wp2_with fail
        refine (hp _ _).mono ?_
        rintro e w1 ⟨rfl, rfl⟩
        simp only [hb]
        go_wp2
        go_ret
        exact ⟨ret_int (by rw [spanL_no hlt hb HS.out]), rfl⟩
      · go_wp2_with fail
        refine (hp _ _).mono ?_
        rintro e w1 ⟨rfl, rfl⟩
        simp only [hb]
        go_wp2
        exact ⟨⟨k + 1, by omega, by go_num, spanL_yes hlt hb HS.out⟩, by simp [intOf]; omega⟩
    · have hk1 : ¬ (k : Int) < s.size := by omega
      go_wp2
      go_ret
      exact ⟨ret_int (by rw [spanL_end (by omega) HS.out]), rfl⟩

theorem inName_any (c : UInt8) (w : World) :
    Calls Tryz.prog 149 #[.int .u8 (c.toNat : Int)] w fun e w' => e = .returned (.bool (nameB c.toNat)) ∧ w' = w := by
  by_cases h0 : (c.toNat : Int) = 46
  · have e0 : ((c.toNat : Int) == 46) = true := by simp [h0]
    go_enter Tryz.func149, Tryz.ntmps149
    go_wp2
    go_ret
    exact ⟨ret_bool (by simp [nameB, h0]), rfl⟩
  · have e0 : ((c.toNat : Int) == 46) = false := by simp [h0]
    cases h1 : letterB c.toNat
    · cases h2 : digitB c.toNat
      all_goals
        go_enter Tryz.func149, Tryz.ntmps149
        go_wp2_with (first | (go_at_call 66; refine (letter_any _ _).mono ?_; rintro e w' ⟨rfl, rfl⟩; simp only [h1]) | (go_at_call 68; refine (digit_any _ _).mono ?_; rintro e w' ⟨rfl, rfl⟩; simp only [h2]))
        go_ret
        exact ⟨ret_bool (by simp [nameB, h1, h2, h0]), rfl⟩
    · go_enter Tryz.func149, Tryz.ntmps149
      go_wp2_with (go_at_call 66; refine (letter_any _ _).mono ?_; rintro e w' ⟨rfl, rfl⟩; simp only [h1])
      go_ret
      exact ⟨ret_bool (by simp [nameB, h1, h0]), rfl⟩

theorem all8 (p : UInt8 → Bool) (h : ((List.range 256).all fun n => p (UInt8.ofNat n)) = true) (c : UInt8) : p c = true := by
  have := (List.all_eq_true.1 h) c.toNat (List.mem_range.2 c.toNat_lt)
  simpa using this

theorem not_empty {s : ByteArray} (hs : 0 < s.size) : (s.toList == []) = false := by
  rw [ByteArray.toList_eq]
  have h1 : s.data.toList.length = s.size := Array.length_toList
  cases h : s.data.toList with
  | nil => rw [h] at h1; simp only [List.length_nil] at h1; omega
  | cons a r => rfl

theorem enters52 : Enters1 149 := enters_of Tryz.func149 (by kernel_rfl) rfl

theorem empty_of {s : ByteArray} (h : s.data.toList = []) : s = ⟨#[]⟩ := by
  apply ByteArray.ext
  exact Array.toList_inj.1 h

theorem size_of {s : ByteArray} {l : List UInt8} (h : s.data.toList = l) : s.size = l.length := by rw [← h]; exact Array.length_toList.symm


theorem nextT_cons (c : UInt8) (r : List UInt8) : nextT (c :: r) = if pb letterB c = true then .tok ⟨1, 0, (c :: r).takeWhile (pb wordB)⟩ ((c :: r).dropWhile (pb wordB))
    else if pb digitB c = true then
      match numL ((c :: r).takeWhile (pb numB)) with
      | none => .bad
      | some n => .tok ⟨2, n, []⟩ ((c :: r).dropWhile (pb numB))
    else if signN (c :: r) = 0 then .bad
    else .tok ⟨3, 0, (c :: r).take (signN (c :: r))⟩ ((c :: r).drop (signN (c :: r))) := rfl

theorem line_done {l : List UInt8} {done : List Tok} (h : l.length ≤ 80) (e : toks (code l) = some done) : lineErr l = 0 ∧ lineList l = done := by
  have h' : ¬ 80 < l.length := by omega
  unfold lineErr lineList lineToks
  rw [if_neg h', if_neg h', e]
  exact ⟨rfl, rfl⟩

theorem line_bad {l : List UInt8} (h : l.length ≤ 80) (e : toks (code l) = none) : lineErr l = 2 ∧ lineList l = [] := by
  have h' : ¬ 80 < l.length := by omega
  unfold lineErr lineList lineToks
  rw [if_neg h', if_neg h', e]
  exact ⟨rfl, rfl⟩

theorem line_much {l : List UInt8} (h : 80 < l.length) : lineErr l = 4 ∧ lineList l = [] := by
  unfold lineErr lineList lineToks
  rw [if_pos h, if_pos h]
  exact ⟨rfl, rfl⟩

theorem ownsRow_base {w : World} {b b' n : Nat} {e : TypeId} {size : Nat} {v : Value} {xs : List Value} (h : w.ownsRow b e size v n xs) (hb : b' ≤ b) : w.ownsRow b' e size v n xs := by
  refine ⟨h.1, ?_⟩
  rcases h.2 with h | ⟨g, cap, cur, rfl, hg, rest⟩
  · exact Or.inl h
  · exact Or.inr ⟨g, cap, cur, rfl, by omega, rest⟩


/-- The slice v reads as the tokens ts. -/
def TReads (w : World) (v : Value) (ts : List Tok) : Prop :=
  ∃ ad cap, v = .slice ad ts.length cap ∧ ts.length ≤ maxLen ∧ (0 < ts.length → ∃ b o, ad = some ⟨b, o, none⟩ ∧ b < w.heap.size ∧ ∀ i (h : i < ts.length),
    w.cell? ⟨b, o + i * 3, none⟩ = some (.int .i64 ts[i].kind) ∧ w.cell? ⟨b, o + i * 3 + 1, none⟩ = some (.int .i64 ts[i].n) ∧ w.cell? ⟨b, o + i * 3 + 2, none⟩ = some (.string ⟨ts[i].text.toArray⟩))

theorem tcells_length (ts : List Tok) : (tcells ts).length = ts.length * 3 := by
  induction ts with
  | nil => rfl
  | cons t r ih => simp [tcells, Tok.cells] at ih ⊢; omega

theorem tcells_at : ∀ (ts : List Tok) (i : Nat) (h : i < ts.length), (tcells ts)[i * 3]? = some (.int .i64 ts[i].kind) ∧ (tcells ts)[i * 3 + 1]? = some (.int .i64 ts[i].n) ∧ (tcells ts)[i * 3 + 2]? = some (.string ⟨ts[i].text.toArray⟩)
  | [], i, h => by simp at h
  | t :: r, 0, _ => ⟨rfl, rfl, rfl⟩
  | t :: r, i + 1, h => by
    have ih := tcells_at r i (by simpa using h)
    have e : tcells (t :: r) = [.int .i64 t.kind, .int .i64 t.n, .string ⟨t.text.toArray⟩] ++ tcells r := rfl
    rw [e]
    refine ⟨?_, ?_, ?_⟩
    · rw [List.getElem?_append_right (by simp; omega)]; simpa [Nat.add_mul] using ih.1
    · rw [List.getElem?_append_right (by simp; omega), show (i + 1) * 3 + 1 - [Value.int .i64 t.kind, .int .i64 t.n, .string ⟨t.text.toArray⟩].length = i * 3 + 1 by simp; omega]; exact ih.2.1
    · rw [List.getElem?_append_right (by simp; omega), show (i + 1) * 3 + 2 - [Value.int .i64 t.kind, .int .i64 t.n, .string ⟨t.text.toArray⟩].length = i * 3 + 2 by simp; omega]; exact ih.2.2

theorem reads_of_owns {w : World} {base : Nat} {v : Value} {ts : List Tok} (h : w.ownsRow base 89 3 v ts.length (tcells ts)) : TReads w v ts := by
  rcases h.2 with ⟨rfl, hn⟩ | ⟨g, cap, cur, rfl, _, hg, hle, hm, _⟩
  · exact ⟨none, 0, by rw [hn], by rw [hn]; exact Nat.zero_le _, fun h0 => by omega⟩
  · refine ⟨_, cap, rfl, Nat.le_trans hle hm, fun _ => ⟨g, 0, rfl, (Array.getElem?_eq_some_iff.1 hg).1, fun i hi => ?_⟩⟩
    have ha := tcells_at ts i hi
    have hadd : ∀ j, (⟨g, 0, none⟩ : Addr).add j = ⟨g, 0 + j, none⟩ := fun j => by unfold Addr.add; split <;> simp_all
    have x0 := h.cells rfl _ _ ha.1
    have x1 := h.cells rfl _ _ ha.2.1
    have x2 := h.cells rfl _ _ ha.2.2
    rw [hadd] at x0 x1 x2
    exact ⟨x0, x1, x2⟩

theorem TReads.below {w w' : World} {B : Nat} {v : Value} {ts : List Tok} (h : TReads w v ts) (hb : Below B w w') (hB : w.heap.size ≤ B) : TReads w' v ts := by
  obtain ⟨ad, cap, rfl, hm, hc⟩ := h
  refine ⟨ad, cap, rfl, hm, fun h0 => ?_⟩
  obtain ⟨b, o, rfl, hlt, hcell⟩ := hc h0
  refine ⟨b, o, rfl, Nat.lt_of_lt_of_le hlt hb.size, fun i hi => ?_⟩
  have := hcell i hi
  rw [hb.cell (by show b < B; omega), hb.cell (by show b < B; omega), hb.cell (by show b < B; omega)]
  exact this


/-- What is written of a token. -/
def prT (t : Tok) : List UInt8 := if t.kind = 2 then Lib.itoa t.n else t.text

def printL (ts : List Tok) : List UInt8 := Lib.join (ts.map prT) [32]


/-- Whether it is a name. -/
def nameR (l : List UInt8) : Bool := match l with
  | [] => false
  | c :: r => decide (r.length < 10) && !pb digitB c && (c :: r).all (pb nameB)

theorem spanL_all (p : Int → Bool) : ∀ l : List UInt8, decide (spanL p l = l.length) = l.all (pb p)
  | [] => rfl
  | c :: r => by
    have ih := spanL_all p r
    simp only [spanL, List.takeWhile_cons, List.all_cons] at ih ⊢
    cases hc : pb p c
    · simp
    · rw [← ih]; simp only [if_true, List.length_cons, Bool.true_and, Nat.add_right_cancel_iff]; exact decide_eq_decide.2 Iff.rfl

theorem name_any (s : ByteArray) (w : World) :
    Calls Tryz.prog 112 #[.string s] w fun e w' => e = .returned (.bool (nameR s.data.toList)) ∧ w' = w := by
  have hlen := size_of (rfl : s.data.toList = _)
  cases hl : s.data.toList with
  | nil =>
    have hs : s = ⟨#[]⟩ := empty_of hl
    subst hs
    go_enter Tryz.func112, Tryz.ntmps112
    go_wp2
    go_ret
    exact ⟨rfl, rfl⟩
  | cons c r =>
    rw [hl] at hlen
    simp only [List.length_cons] at hlen
    have h0 : 0 < s.size := by omega
    have h1 : ¬ (s.size : Int) < 1 := by omega
    by_cases h10 : (10 : Int) < s.size
    · have HF : Hid (nameR (c :: r) = false) := by
        have : ¬ r.length < 10 := by omega
        simp [Hid, nameR, this]
      clear hlen
      go_enter Tryz.func112, Tryz.ntmps112
      go_wp2
      go_ret
      exact ⟨ret_bool HF.out.symm, rfl⟩
    · have hat : s[0] = c := by
        have := drop_at h0
        rw [List.drop_zero, hl] at this
        injection this with h1 _
        exact h1.symm
      have hidx := index9 s 0 0 rfl h0
      rw [hat] at hidx
      cases hd : digitB c.toNat
      · have HF : Hid (nameR (c :: r) = decide (spanL nameB (c :: r) = (c :: r).length)) := by
          have h2 : r.length < 10 := by omega
          have h3 : pb digitB c = false := hd
          rw [spanL_all]
          simp [Hid, nameR, h2, h3]
        have hsp : ∀ w, Calls Tryz.prog 63 #[.string s, .func (.func 149) #[] #[]] w fun e w' => e = .returned (.int .i64 (spanL nameB (c :: r))) ∧ w' = w := by
          intro w
          have := span_any s 149 nameB w (by omega) enters52 (fun c w => inName_any c w)
          rw [hl] at this
          exact this
        have hsz : (s.size : Int) = ((c :: r).length : Nat) := by simp; omega
        rw [HF.out]
        clear HF hl hat
        go_enter Tryz.func112, Tryz.ntmps112
        go_wp2_with (first | (go_at_call 68; refine (digit_any _ _).mono ?_; rintro e w' ⟨rfl, rfl⟩; simp only [hd]) | (go_at_call 63; refine (hsp _).mono ?_; rintro e w' ⟨rfl, rfl⟩))
        go_ret
        refine ⟨ret_bool ?_, rfl⟩
        show decide (((spanL nameB (c :: r) : Nat) : Int) = (r.length : Int) + 1) = _
        exact decide_eq_decide.2 (by omega)
      · have HF : Hid (nameR (c :: r) = false) := by
          have h3 : pb digitB c = true := hd
          simp [Hid, nameR, h3]
        clear hlen hl hat
        go_enter Tryz.func112, Tryz.ntmps112
        go_wp2_with (go_at_call 68; refine (digit_any _ _).mono ?_; rintro e w' ⟨rfl, rfl⟩; simp only [hd])
        go_ret
        exact ⟨ret_bool HF.out.symm, rfl⟩


def Good (t : Tok) : Prop :=
  (∃ c r, t = ⟨1, 0, c :: r⟩ ∧ pb letterB c = true ∧ r.all (pb wordB) = true) ∨
  (∃ u : Nat, t = ⟨2, u, []⟩ ∧ u ≤ 4294967295) ∨
  (∃ l, t = ⟨3, 0, l⟩ ∧ (l = [60, 60] ∨ l = [62, 62] ∨ ∃ c, l = [c] ∧ pb signB c = true))

theorem hasPrefix_two {l : List UInt8} {a b : UInt8} (h : Lib.hasPrefix l [a, b] = true) : ∃ r, l = a :: b :: r := by
  unfold Lib.hasPrefix at h
  obtain ⟨r, rfl⟩ := List.isPrefixOf_iff_prefix.1 h
  exact ⟨r, rfl⟩

/-- A list of bytes ends there. -/
def Ends (l : List UInt8) : Prop := l = [] ∨ ∃ r, l = 32 :: r

theorem span_stop {p : UInt8 → Bool} (h32 : p 32 = false) : ∀ (l rest : List UInt8), l.all p = true → Ends rest → (l ++ rest).takeWhile p = l ∧ (l ++ rest).dropWhile p = rest
  | [], rest, _, he => by
    rcases he with rfl | ⟨r, rfl⟩
    · exact ⟨rfl, rfl⟩
    · simp [h32]
  | c :: l, rest, ha, he => by
    simp only [List.all_cons, Bool.and_eq_true] at ha
    have ih := span_stop h32 l rest ha.2 he
    simp [ha.1, ih.1, ih.2]

theorem decDigits_all (u : Nat) : (Lib.decDigits u).all (pb digitB) = true := by
  induction u using Nat.strongRecOn with
  | _ u ih =>
    by_cases h : u < 10
    · rw [Lib.decDigits_one h]
      have : (48 + u) % 256 = 48 + u := by omega
      simp [pb, digitB, this]; omega
    · rw [Lib.decDigits, dif_neg h, List.all_append, ih (u / 10) (by omega)]
      have : (48 + u % 10) % 256 = 48 + u % 10 := by omega
      simp [pb, digitB, this]; omega

theorem decDigits_ne (u : Nat) : Lib.decDigits u ≠ [] := by
  intro h
  have := Lib.decDigits_length u
  have := Lib.nDigits_pos u
  rw [h] at *
  simp at *
  omega

theorem parseN_append (l : List UInt8) (c : UInt8) : ∀ acc n, parseN 10 acc l = some n → parseN 10 acc (l ++ [c]) = parseN 10 n [c] := by
  induction l with
  | nil => intro acc n h; simp [parseN] at h; subst h; rfl
  | cons d r ih =>
    intro acc n h
    unfold parseN at h
    rw [List.cons_append, parseN]
    split at h
    · cases h
    · rename_i v hv
      split at h
      · rename_i hle
        simp only [if_pos hle]
        exact ih _ _ h
      · cases h

theorem parse_digits (u : Nat) : u ≤ 4294967295 → parseN 10 0 (Lib.decDigits u) = some u := by
  induction u using Nat.strongRecOn with
  | _ u ih =>
    intro hu
    by_cases h : u < 10
    · rw [Lib.decDigits_one h]
      have e : (UInt8.ofNat (48 + u)).toNat = 48 + u := by simp; omega
      have hv : digV 10 (UInt8.ofNat (48 + u)).toNat = some u := by rw [e]; simp [digV]; omega
      simp only [parseN, hv]
      rw [if_pos (by omega)]
      simp
    · rw [Lib.decDigits, dif_neg h]
      rw [parseN_append _ _ 0 (u / 10) (ih (u / 10) (by omega) (by omega))]
      have e : (UInt8.ofNat (48 + u % 10)).toNat = 48 + u % 10 := by simp; omega
      have hv : digV 10 (UInt8.ofNat (48 + u % 10)).toNat = some (u % 10) := by rw [e]; simp [digV]; omega
      simp only [parseN, hv]
      rw [if_pos (by omega)]
      simp; omega

theorem digit_num {c : UInt8} (h : pb digitB c = true) : pb numB c = true := by unfold pb numB at *; simp [h]

theorem digit_noletter {c : UInt8} (h : pb digitB c = true) : pb letterB c = false := by
  unfold pb digitB letterB at *
  simp at h ⊢
  omega

theorem letter_word {c : UInt8} (h : pb letterB c = true) : pb wordB c = true := by unfold pb wordB at *; simp [h]

theorem num_numL {u : Nat} (hu : u ≤ 4294967295) : numL (Lib.decDigits u) = some u := by
  have hall := decDigits_all u
  have hp : Lib.hasPrefix (Lib.decDigits u) [48, 120] = false := by
    cases h : Lib.hasPrefix (Lib.decDigits u) [48, 120]
    · rfl
    · obtain ⟨r, e⟩ := hasPrefix_two h
      rw [e] at hall
      simp [pb, digitB] at hall
  unfold numL parseU
  rw [if_neg (by simp [hp]), if_neg (decDigits_ne u), parse_digits u hu]

theorem sign_nodigit {c : UInt8} (h : pb signB c = true) : pb letterB c = false ∧ pb digitB c = false ∧ pb blankB c = false ∧ c ≠ 60 ∧ c ≠ 62 ∧ c ≠ 59 := by
  have := all8 (fun c => !pb signB c || (!pb letterB c && !pb digitB c && !pb blankB c && c != 60 && c != 62 && c != 59)) (by decide +kernel) c
  simp [h] at this
  obtain ⟨⟨⟨⟨⟨a, b⟩, d⟩, e⟩, f⟩, g⟩ := this
  exact ⟨a, b, d, e, f, g⟩

/-- What is written of a token, with a blank or nothing behind it, is read as that token. -/
theorem next_pr {t : Tok} (ht : Good t) {rest : List UInt8} (he : Ends rest) : nextT (prT t ++ rest) = .tok t rest ∧ (prT t ++ rest).dropWhile (pb blankB) = prT t ++ rest ∧ (∀ c, c ∈ prT t → c ≠ 59) := by
  rcases ht with ⟨c, r, rfl, hc, hr⟩ | ⟨u, rfl, hu⟩ | ⟨l, rfl, hl⟩
  · have hall : (c :: r).all (pb wordB) = true := by simp [letter_word hc, hr]
    have hs := span_stop (p := pb wordB) (by decide) (c :: r) rest hall he
    have e : prT ⟨1, 0, c :: r⟩ = c :: r := rfl
    rw [e]
    have hb : pb blankB c = false := by
      have := all8 (fun c => !pb letterB c || !pb blankB c) (by decide +kernel) c
      simp [hc] at this
      exact this
    refine ⟨?_, ?_, ?_⟩
    · rw [List.cons_append] at hs ⊢
      rw [nextT_cons, if_pos hc, hs.1, hs.2]
    · rw [List.cons_append, List.dropWhile_cons, hb]
      rfl
    · intro d hd e
      subst e
      have := List.all_eq_true.1 hall 59 hd
      revert this
      decide
  · have hall := decDigits_all u
    have hne := decDigits_ne u
    have e : prT ⟨2, u, []⟩ = Lib.decDigits u := by
      show Lib.itoa (u : Int) = _
      exact Lib.itoa_nonneg u
    rw [e]
    have hn := num_numL hu
    have hs := span_stop (p := pb numB) (by decide) (Lib.decDigits u) rest (by
      rw [List.all_eq_true] at hall ⊢
      intro x hx
      exact digit_num (hall x hx)) he
    cases hd : Lib.decDigits u with
    | nil => exact absurd hd hne
    | cons c r =>
      rw [hd] at hall hs hn
      have hc : pb digitB c = true := by simp only [List.all_cons, Bool.and_eq_true] at hall; exact hall.1
      have hb : pb blankB c = false := by
        have := all8 (fun c => !pb digitB c || !pb blankB c) (by decide +kernel) c
        simp [hc] at this
        exact this
      refine ⟨?_, ?_, ?_⟩
      · rw [List.cons_append] at hs ⊢
        rw [nextT_cons, if_neg (by simp [digit_noletter hc]), if_pos hc, hs.1, hs.2, hn]
      · rw [List.cons_append, List.dropWhile_cons, hb]
        rfl
      · intro d hd e
        subst e
        have := List.all_eq_true.1 hall 59 hd
        revert this
        decide
  · have e : prT ⟨3, 0, l⟩ = l := rfl
    rw [e]
    rcases hl with rfl | rfl | ⟨c, rfl, hc⟩
    · refine ⟨?_, rfl, ?_⟩
      · show nextT (60 :: 60 :: rest) = _
        rw [nextT_cons, if_neg (by decide), if_neg (by decide)]
        have : signN (60 :: 60 :: rest) = 2 := by
          unfold signN
          rw [if_pos (Or.inl (by simp [Lib.hasPrefix, List.isPrefixOf]))]
        rw [this]
        rfl
      · intro d hd; simp at hd; subst hd; decide
    · refine ⟨?_, rfl, ?_⟩
      · show nextT (62 :: 62 :: rest) = _
        rw [nextT_cons, if_neg (by decide), if_neg (by decide)]
        have : signN (62 :: 62 :: rest) = 2 := by
          unfold signN
          rw [if_pos (Or.inr (by simp [Lib.hasPrefix, List.isPrefixOf]))]
        rw [this]
        rfl
      · intro d hd; simp at hd; subst hd; decide
    · obtain ⟨h1, h2, h3, h4, h5, h6⟩ := sign_nodigit hc
      refine ⟨?_, ?_, ?_⟩
      · show nextT (c :: rest) = _
        rw [nextT_cons, if_neg (by simp [h1]), if_neg (by simp [h2])]
        have : signN (c :: rest) = 1 := by
          unfold signN
          rw [if_neg]
          · simp only [if_pos hc]
          · intro h
            rcases h with h | h
            · obtain ⟨r, e⟩ := hasPrefix_two h
              injection e with e1 _
              exact h4 e1
            · obtain ⟨r, e⟩ := hasPrefix_two h
              injection e with e1 _
              exact h5 e1
        rw [this]
        rfl
      · show (c :: rest).dropWhile (pb blankB) = _
        rw [List.dropWhile_cons, h3]
        rfl
      · intro d hd; simp at hd; subst hd; exact h6

def tailL (ts : List Tok) : List UInt8 := Lib.joinTail [32] (ts.map prT)

theorem tailL_cons (t : Tok) (r : List Tok) : tailL (t :: r) = 32 :: (prT t ++ tailL r) := by simp [tailL, Lib.joinTail]

theorem tailL_ends (ts : List Tok) : Ends (tailL ts) := by
  cases ts with
  | nil => exact Or.inl rfl
  | cons t r => exact Or.inr ⟨_, tailL_cons t r⟩

theorem printL_cons (t : Tok) (r : List Tok) : printL (t :: r) = prT t ++ tailL r := by
  unfold printL tailL
  rw [List.map_cons, Lib.join_cons]

theorem toks_tail : ∀ ts : List Tok, (∀ t, t ∈ ts → Good t) → toks (tailL ts) = some ts
  | [], _ => rfl
  | t :: r, h => by
    have hn := next_pr (h t (by simp)) (tailL_ends r)
    have ih := toks_tail r (fun t' ht' => h t' (by simp [ht']))
    have hd : (tailL (t :: r)).dropWhile (pb blankB) = prT t ++ tailL r := by
      rw [tailL_cons, List.dropWhile_cons, if_pos (by decide)]
      exact hn.2.1
    rw [toks_tok (by rw [hd]; exact hn.1), ih]
    rfl

theorem toks_print (ts : List Tok) (h : ∀ t, t ∈ ts → Good t) : toks (printL ts) = some ts := by
  cases ts with
  | nil => rfl
  | cons t r =>
    have hn := next_pr (h t (by simp)) (tailL_ends r)
    have ih := toks_tail r (fun t' ht' => h t' (by simp [ht']))
    rw [printL_cons, toks_tok (by rw [hn.2.1]; exact hn.1), ih]
    rfl

theorem tail_nosemi : ∀ ts : List Tok, (∀ t, t ∈ ts → Good t) → ∀ c, c ∈ tailL ts → c ≠ 59
  | [], _, c, hc => by simp [tailL, Lib.joinTail] at hc
  | t :: r, h, c, hc => by
    rw [tailL_cons] at hc
    rcases List.mem_cons.1 hc with rfl | hc
    · decide
    · rcases List.mem_append.1 hc with hc | hc
      · exact (next_pr (h t (by simp)) (tailL_ends r)).2.2 c hc
      · exact tail_nosemi r (fun t' ht' => h t' (by simp [ht'])) c hc

theorem code_print (ts : List Tok) (h : ∀ t, t ∈ ts → Good t) : code (printL ts) = printL ts := by
  have hall : ∀ c, c ∈ printL ts → c ≠ 59 := by
    cases ts with
    | nil => intro c hc; simp [printL, Lib.join, List.intercalate] at hc
    | cons t r =>
      intro c hc
      rw [printL_cons] at hc
      rcases List.mem_append.1 hc with hc | hc
      · exact (next_pr (h t (by simp)) (tailL_ends r)).2.2 c hc
      · exact tail_nosemi r (fun t' ht' => h t' (by simp [ht'])) c hc
  unfold code
  generalize printL ts = l at hall
  induction l with
  | nil => rfl
  | cons c r ih =>
    rw [List.takeWhile_cons, if_pos (by simp [hall c (by simp)]), ih (fun d hd => hall d (by simp [hd]))]


/-- A byte's kind, as the document's answer tells it. -/
def kindR (c : Int) : Int := if letterB c then 97 else if digitB c then 48 else if blankB c then 32 else 0

theorem beq_no {a b : Int} (h : a ≠ b) : (a == b) = false := by simpa using h

set_option maxHeartbeats 1000000 in
theorem kind_any (c : Int) (w : World) :
    Calls Tryz.prog 29 #[.int .u8 c] w fun e w' => e = .returned (.int .u8 (kindR c)) ∧ w' = w := by
  by_cases he : c = 95 ∨ c = 46 ∨ c = 32 ∨ c = 9 ∨ c = 13
  · rcases he with rfl | rfl | rfl | rfl | rfl
    all_goals
      go_enter Tryz.func29, Tryz.ntmps29
      go_wp2
      go_ret
      exact ⟨rfl, rfl⟩
  · have e5 : (c == 95) = false := beq_no (by omega)
    have e6 : (c == 46) = false := beq_no (by omega)
    have e9 : (c == 32) = false := beq_no (by omega)
    have e10 : (c == 9) = false := beq_no (by omega)
    have e11 : (c == 13) = false := beq_no (by omega)
    have HE : Hid (¬ (c = 95 ∨ c = 46 ∨ c = 32 ∨ c = 9 ∨ c = 13)) := he
    clear he
    by_cases h1 : 97 ≤ c
    all_goals by_cases h2 : c ≤ 122
    all_goals try (exfalso; omega)
    all_goals by_cases h3 : 65 ≤ c
    all_goals try (exfalso; omega)
    all_goals by_cases h4 : c ≤ 90
    all_goals try (exfalso; omega)
    all_goals by_cases h7 : 48 ≤ c
    all_goals try (exfalso; omega)
    all_goals by_cases h8 : c ≤ 57
    all_goals try (exfalso; omega)
    all_goals
      go_enter Tryz.func29, Tryz.ntmps29
      go_wp2
      go_ret
      refine ⟨ret_int ?_, rfl⟩
      have hh := HE.out
      unfold kindR letterB digitB blankB
      repeat' split
      all_goals first | rfl | (exfalso; simp at *; omega)


theorem letter_blank (c : UInt8) : (letterB c.toNat && (blankB c.toNat || digitB c.toNat)) = false := by
  have := all8 (fun c => (letterB c.toNat && (blankB c.toNat || digitB c.toNat)) == false) (by decide +kernel) c
  exact beq_iff_eq.1 this

theorem kind97 (c : Int) : (kindR c == 97) = letterB c := by
  unfold kindR
  cases letterB c
  · cases digitB c
    · cases blankB c <;> rfl
    · rfl
  · rfl

theorem kind48 {c : Int} (h : letterB c = false) : (kindR c == 48) = digitB c := by
  unfold kindR
  rw [h]
  cases digitB c
  · cases blankB c <;> rfl
  · rfl

theorem owns_belowT {w w' : World} {base n : Nat} {e : TypeId} {size : Nat} {v : Value} {xs : List Value} (h : w.ownsRow base e size v n xs) (hb : Below w.heap.size w w') : w'.ownsRow base e size v n xs := by
  refine ⟨h.1, ?_⟩
  rcases h.2 with h | ⟨g, cap, cur, rfl, hg, hcur, rest⟩
  · exact Or.inl h
  · exact Or.inr ⟨g, cap, cur, rfl, hg, (hb.block g (Array.getElem?_eq_some_iff.1 hcur).1).trans hcur, rest⟩


theorem kindN97 (c : Int) : (kindR c != 97) = !letterB c := by rw [bne, kind97]

theorem kindN48 {c : Int} (h : letterB c = false) : (kindR c != 48) = !digitB c := by rw [bne, kind48 h]

/-- A name's bytes from a place on. -/
def allAt (l : List UInt8) (k : Nat) : Prop := l.all (pb nameB) = (l.drop k).all (pb nameB)

theorem allAt_start (l : List UInt8) : allAt l 0 := by simp [allAt]

theorem allAt_yes {l r : List UInt8} {k : Nat} {c : UInt8} (h : allAt l k) (hd : l.drop k = c :: r) (hc : nameB c.toNat = true) : allAt l (k + 1) := by
  unfold allAt at h ⊢
  have hr : l.drop (k + 1) = r := by rw [← List.drop_drop, hd]; rfl
  have hp : pb nameB c = true := hc
  rw [h, hd, hr]
  simp [hp]

theorem allAt_no {l r : List UInt8} {k : Nat} {c : UInt8} (h : allAt l k) (hd : l.drop k = c :: r) (hc : nameB c.toNat = false) : l.all (pb nameB) = false := by
  unfold allAt at h
  have hp : pb nameB c = false := hc
  rw [h, hd]
  simp [hp]

theorem allAt_end {l : List UInt8} {k : Nat} (h : allAt l k) (hd : l.length ≤ k) : l.all (pb nameB) = true := by
  unfold allAt at h
  rw [h, List.drop_eq_nil_of_le hd]
  rfl

theorem nameR_eq {c : UInt8} {r : List UInt8} (h : r.length < 10) (hl : letterB c.toNat = true) : nameR (c :: r) = (c :: r).all (pb nameB) := by
  have hd : pb digitB c = false := by have := letter_blank c; rw [hl] at this; simp at this; exact this.2
  simp [nameR, h, hd]

theorem nameR_no {c : UInt8} {r : List UInt8} (hl : letterB c.toNat = false) : nameR (c :: r) = false := by
  unfold nameR
  cases hd : pb digitB c
  · have : pb nameB c = false := by
      have h1 : digitB c.toNat = false := hd
      simp [pb, nameB, hl, h1]
    simp [this]
  · simp [hd]

end Go.Proofs.YtagkmgdjkailkaaGreatDoor.Xp
