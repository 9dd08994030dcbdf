/- What a name is; objects in memory: bytes, syms and relocs that slices read as; no function of the program. -/
import Derived.Test.YtabepbaldadmgaaDoorObSpec
import Derived.Test.YtabepbaldadmgaaDoorRows
import Derived.WalkKit
import Derived.WalkSpells
import Derived.WalkLawsBesides
import Derived.Deep.RegionHeld3
import Derived.BigQuiet
import Derived.Lib.ParseIntB
import Derived.Lib.Strings
import Derived.Lib.Split
import Derived.Laws.EntriesVeiled
import Derived.Maps.AppendAt
import Derived.Deep.DeepCutAuto
import Derived.Lib.ConvBytes
import Derived.Lib.ParseIntBMem
import Derived.Lib.AtoiErrMem
import Derived.Lib.Hide
import Derived.Laws.Strings3
import Derived.Laws.Closers25
import Derived.Laws.Closers25b
import Derived.BigCall
import Derived.BigGuard
import Derived.WalkSmall
import Derived.Lib.IndexBytes
import Derived.Lib.SmallJoins
import Derived.Laws.CopyOwn
import Derived.Deep.OwnRows
import Derived.Lib.ItoaMem
import Derived.Lib.AppendIntMem
import Derived.Lib.ItoaLen
import Derived.Laws.BytesArg
import Derived.Lib.SplitLaws
import Derived.Deep.AppendSrc
namespace Go.Proofs.YtabepbaldadmgaaDoor
open Go.RowKit



theorem ret_bool {a b : Bool} (h : a = b) : Ending.returned (.bool a) = .returned (.bool b) := by rw [h]

theorem ret_int {k : IntKind} {a b : Int} (h : a = b) : Ending.returned (.int k a) = .returned (.int k b) := by rw [h]

/-- What bytes are. -/
def letterB (c : Int) : Bool := decide (97 ≤ c ∧ c ≤ 122 ∨ 65 ≤ c ∧ c ≤ 90 ∨ c = 95 ∨ c = 46)

def digitB (c : Int) : Bool := decide (48 ≤ c ∧ c ≤ 57)

def blankB (c : Int) : Bool := decide (c = 32 ∨ c = 9 ∨ c = 13)

def nameB (c : Int) : Bool := decide (c ≠ 46) && (letterB c || digitB c)

def pb (p : Int → Bool) (c : UInt8) : Bool := p (c.toNat : Int)

theorem index9 (s : ByteArray) (k : Nat) (i : Int) (hi : i = (k : Int)) (hk : k < s.size) (w : World) : (Instr.index 9 (.string s) (.int .i64 i)).run Tryd.prog w = .ok (.int .u8 (s[k].toNat : Int)) w := by
  subst hi
  simp [Instr.index, run_underlying Tryd.underlying9, asIntOf, hk]

theorem drop_at {s : ByteArray} {k : Nat} (hk : k < s.size) : s.data.toList.drop k = s[k] :: s.data.toList.drop (k + 1) := by
  have h : k < s.data.toList.length := by simpa using hk
  rw [List.drop_eq_getElem_cons h]
  rfl

theorem all8 (p : UInt8 → Bool) (h : ((List.range 256).all fun n => p (UInt8.ofNat n)) = true) (c : UInt8) : p c = true := by
  have := (List.all_eq_true.1 h) c.toNat (List.mem_range.2 c.toNat_lt)
  simpa using this

theorem not_empty {s : ByteArray} (hs : 0 < s.size) : (s.toList == []) = false := by
  rw [ByteArray.toList_eq]
  have h1 : s.data.toList.length = s.size := Array.length_toList
  cases h : s.data.toList with
  | nil => rw [h] at h1; simp only [List.length_nil] at h1; omega
  | cons a r => rfl

theorem empty_of {s : ByteArray} (h : s.data.toList = []) : s = ⟨#[]⟩ := by
  apply ByteArray.ext
  exact Array.toList_inj.1 h

/-- Whether it is a name. -/
def nameR (l : List UInt8) : Bool := match l with
  | [] => false
  | c :: r => decide (r.length < 10) && !pb digitB c && (c :: r).all (pb nameB)

/-- A byte's kind, as the document's answer tells it. -/
def kindR (c : Int) : Int := if letterB c then 97 else if digitB c then 48 else if blankB c then 32 else 0

theorem beq_no {a b : Int} (h : a ≠ b) : (a == b) = false := by simpa using h

theorem letter_blank (c : UInt8) : (letterB c.toNat && (blankB c.toNat || digitB c.toNat)) = false := by
  have := all8 (fun c => (letterB c.toNat && (blankB c.toNat || digitB c.toNat)) == false) (by decide +kernel) c
  exact beq_iff_eq.1 this

theorem kind97 (c : Int) : (kindR c == 97) = letterB c := by
  unfold kindR
  cases letterB c
  · cases digitB c
    · cases blankB c <;> rfl
    · rfl
  · rfl

theorem kind48 {c : Int} (h : letterB c = false) : (kindR c == 48) = digitB c := by
  unfold kindR
  rw [h]
  cases digitB c
  · cases blankB c <;> rfl
  · rfl

theorem kindN97 (c : Int) : (kindR c != 97) = !letterB c := by rw [bne, kind97]

theorem kindN48 {c : Int} (h : letterB c = false) : (kindR c != 48) = !digitB c := by rw [bne, kind48 h]

/-- A name's bytes from a place on. -/
def allAt (l : List UInt8) (k : Nat) : Prop := l.all (pb nameB) = (l.drop k).all (pb nameB)

theorem allAt_start (l : List UInt8) : allAt l 0 := by simp [allAt]

theorem allAt_yes {l r : List UInt8} {k : Nat} {c : UInt8} (h : allAt l k) (hd : l.drop k = c :: r) (hc : nameB c.toNat = true) : allAt l (k + 1) := by
  unfold allAt at h ⊢
  have hr : l.drop (k + 1) = r := by rw [← List.drop_drop, hd]; rfl
  have hp : pb nameB c = true := hc
  rw [h, hd, hr]
  simp [hp]

theorem allAt_no {l r : List UInt8} {k : Nat} {c : UInt8} (h : allAt l k) (hd : l.drop k = c :: r) (hc : nameB c.toNat = false) : l.all (pb nameB) = false := by
  unfold allAt at h
  have hp : pb nameB c = false := hc
  rw [h, hd]
  simp [hp]

theorem allAt_end {l : List UInt8} {k : Nat} (h : allAt l k) (hd : l.length ≤ k) : l.all (pb nameB) = true := by
  unfold allAt at h
  rw [h, List.drop_eq_nil_of_le hd]
  rfl

theorem nameR_eq {c : UInt8} {r : List UInt8} (h : r.length < 10) (hl : letterB c.toNat = true) : nameR (c :: r) = (c :: r).all (pb nameB) := by
  have hd : pb digitB c = false := by have := letter_blank c; rw [hl] at this; simp at this; exact this.2
  simp [nameR, h, hd]

theorem nameR_no {c : UInt8} {r : List UInt8} (hl : letterB c.toNat = false) : nameR (c :: r) = false := by
  unfold nameR
  cases hd : pb digitB c
  · have : pb nameB c = false := by
      have h1 : digitB c.toNat = false := hd
      simp [pb, nameB, hl, h1]
    simp [this]
  · simp [hd]


/-- The slice reads as bytes. -/
def OBytes (w : World) (v : Value) (l : List UInt8) : Prop :=
  ∃ ad cap, v = .slice ad l.length cap ∧ l.length ≤ maxLen ∧ (0 < l.length → ∃ b o, ad = some ⟨b, o, none⟩ ∧ b < w.heap.size ∧ ∀ i (h : i < l.length),
    w.cell? ⟨b, o + i, none⟩ = some (.int .u8 (l[i].toNat : Int)))

/-- The slice reads as syms. -/
def OSyms (w : World) (v : Value) (l : List Sy) : Prop :=
  ∃ ad cap, v = .slice ad l.length cap ∧ (l.length ≤ maxLen ∧ l.length ≤ cap) ∧ (0 < l.length → ∃ b o, ad = some ⟨b, o, none⟩ ∧ b < w.heap.size ∧ ∀ i (h : i < l.length),
    w.cell? ⟨b, o + i * 2, none⟩ = some (.string ⟨l[i].name.toArray⟩) ∧ w.cell? ⟨b, o + i * 2 + 1, none⟩ = some (.int .i64 l[i].pos))

/-- The slice reads as relocs. -/
def ORels (w : World) (v : Value) (l : List Re) : Prop :=
  ∃ ad cap, v = .slice ad l.length cap ∧ l.length ≤ maxLen ∧ (0 < l.length → ∃ b o, ad = some ⟨b, o, none⟩ ∧ b < w.heap.size ∧ ∀ i (h : i < l.length),
    w.cell? ⟨b, o + i * 4, none⟩ = some (.int .i64 l[i].pos) ∧ w.cell? ⟨b, o + i * 4 + 1, none⟩ = some (.int .i64 l[i].size) ∧
    w.cell? ⟨b, o + i * 4 + 2, none⟩ = some (.string ⟨l[i].name.toArray⟩) ∧ w.cell? ⟨b, o + i * 4 + 3, none⟩ = some (.int .i64 l[i].add))

theorem OBytes.below {w w' : World} {B : Nat} {v : Value} {l : List UInt8} (h : OBytes w v l) (hb : Below B w w') (hB : w.heap.size ≤ B) : OBytes w' v l := by
  obtain ⟨ad, cap, rfl, hm, hc⟩ := h
  refine ⟨ad, cap, rfl, hm, fun h0 => ?_⟩
  obtain ⟨b, o, rfl, hlt, hcell⟩ := hc h0
  refine ⟨b, o, rfl, Nat.lt_of_lt_of_le hlt hb.size, fun i hi => ?_⟩
  rw [hb.cell (by show b < B; omega)]
  exact hcell i hi

theorem OSyms.below {w w' : World} {B : Nat} {v : Value} {l : List Sy} (h : OSyms w v l) (hb : Below B w w') (hB : w.heap.size ≤ B) : OSyms w' v l := by
  obtain ⟨ad, cap, rfl, hm, hc⟩ := h
  refine ⟨ad, cap, rfl, hm, fun h0 => ?_⟩
  obtain ⟨b, o, rfl, hlt, hcell⟩ := hc h0
  refine ⟨b, o, rfl, Nat.lt_of_lt_of_le hlt hb.size, fun i hi => ?_⟩
  rw [hb.cell (by show b < B; omega), hb.cell (by show b < B; omega)]
  exact hcell i hi

theorem ORels.below {w w' : World} {B : Nat} {v : Value} {l : List Re} (h : ORels w v l) (hb : Below B w w') (hB : w.heap.size ≤ B) : ORels w' v l := by
  obtain ⟨ad, cap, rfl, hm, hc⟩ := h
  refine ⟨ad, cap, rfl, hm, fun h0 => ?_⟩
  obtain ⟨b, o, rfl, hlt, hcell⟩ := hc h0
  refine ⟨b, o, rfl, Nat.lt_of_lt_of_le hlt hb.size, fun i hi => ?_⟩
  rw [hb.cell (by show b < B; omega), hb.cell (by show b < B; omega), hb.cell (by show b < B; omega), hb.cell (by show b < B; omega)]
  exact hcell i hi

theorem oalloc (w : World) (o : Obj) : Below w.heap.size w (w.alloc o) := (Below.refl _ _).alloc (Nat.le_refl _) _

/-! Steps of the sums of errors. -/
theorem symsErr_at {nm : List UInt8 → Bool} {len : Nat} {l : List Sy} {k : Nat} (hk : k < l.length) : symsErr nm len (l.take k) (l.drop k) = if symErr nm len (l.take k) l[k] = 0 then symsErr nm len (l.take (k + 1)) (l.drop (k + 1)) else symErr nm len (l.take k) l[k] := by
  rw [List.drop_eq_getElem_cons hk, symsErr, List.take_succ_eq_append_getElem hk]

theorem symsErr_end {nm : List UInt8 → Bool} {len : Nat} {l : List Sy} {k : Nat} (hk : l.length ≤ k) : symsErr nm len (l.take k) (l.drop k) = 0 := by
  rw [List.drop_eq_nil_of_le hk]; rfl

theorem relsErr_at {nm : List UInt8 → Bool} {len : Nat} {l : List Re} {k : Nat} {last : Int} (hk : k < l.length) : relsErr nm len last (l.drop k) = if relErr nm len last l[k] = 0 then relsErr nm len (l[k].pos + l[k].size) (l.drop (k + 1)) else relErr nm len last l[k] := by
  rw [List.drop_eq_getElem_cons hk, relsErr]

theorem relsErr_end {nm : List UInt8 → Bool} {len : Nat} {l : List Re} {k : Nat} {last : Int} (hk : l.length ≤ k) : relsErr nm len last (l.drop k) = 0 := by
  rw [List.drop_eq_nil_of_le hk]; rfl

theorem any_step {l : List Sy} {j : Nat} {nm : List UInt8} (hj : j < l.length) (h : (l.take j).any (fun t => decide (t.name = nm)) = false) (hn : l[j].name ≠ nm) : (l.take (j + 1)).any (fun t => decide (t.name = nm)) = false := by
  rw [List.take_succ_eq_append_getElem hj, List.any_append, h]
  simpa using hn

theorem any_hit {l : List Sy} {j k : Nat} {nm : List UInt8} (hj : j < l.length) (hjk : j < k) (hn : l[j].name = nm) : (l.take k).any (fun t => decide (t.name = nm)) = true := by
  rw [List.any_eq_true]
  exact ⟨l[j], List.mem_take_iff_getElem.2 ⟨j, by omega, rfl⟩, by simpa using hn⟩


/-- An object's three slices as one value. -/
def obV (cv sv rv : Value) : Value := .agg #[cv, sv, rv]

namespace Og

/-- The byte at place p of bytes that are len many: 0, if it is not there. -/
def byteAt (bs : Nat → Int) (len : Nat) (p : Int) : Int := if 0 ≤ p ∧ p < (len : Int) then bs p.toNat else 0

/-- The number of the k bytes from at on. -/
def getTo (bs : Nat → Int) (len : Nat) (at' : Int) : Nat → Int
  | 0 => 0
  | k + 1 => getTo bs len at' k * 256 + byteAt bs len (at' + k)

def IsByte (bs : Nat → Int) : Prop := ∀ i, 0 ≤ bs i ∧ bs i ≤ 255

theorem byteAt_bd {bs : Nat → Int} (h : IsByte bs) (len : Nat) (p : Int) : 0 ≤ byteAt bs len p ∧ byteAt bs len p ≤ 255 := by
  unfold byteAt
  split
  · exact h _
  · omega

theorem getTo_bd {bs : Nat → Int} (h : IsByte bs) (len : Nat) (a : Int) (k : Nat) : 0 ≤ getTo bs len a k ∧ getTo bs len a k < (256 : Int) ^ k := by
  induction k with
  | zero => simp [getTo]
  | succ k ih =>
    have := byteAt_bd h len (a + k)
    rw [getTo, Int.pow_succ]
    omega

end Og


/-- Bytes as a function. -/
def byF (l : List UInt8) (i : Nat) : Int := ((l.getD i 0).toNat : Int)

theorem byF_byte (l : List UInt8) : Og.IsByte (byF l) := fun i => by have := (l.getD i 0).toNat_lt; unfold byF; omega

theorem beNum_snoc (l : List UInt8) (c : UInt8) : beNum (l ++ [c]) = beNum l * 256 + c.toNat := by simp [beNum]

theorem getTo_list (l : List UInt8) (c : Nat) : ∀ k : Nat, c + k ≤ l.length → Og.getTo (byF l) l.length c k = ((beNum ((l.drop c).take k) : Nat) : Int)
  | 0, _ => by simp [Og.getTo, beNum]
  | k + 1, h => by
    have hk : k < (l.drop c).length := by simp; omega
    rw [Og.getTo, getTo_list l c k (by omega), List.take_succ_eq_append_getElem hk, beNum_snoc]
    have e : Og.byteAt (byF l) l.length ((c : Int) + k) = (((l.drop c)[k]).toNat : Int) := by
      unfold Og.byteAt byF
      rw [if_pos (by omega)]
      have e2 : ((c : Int) + k).toNat = c + k := by omega
      rw [e2, List.getD_eq_getElem?_getD, List.getElem?_eq_getElem (by omega)]
      simp
    rw [e]
    omega

theorem ogset (w : World) (B o : Nat) (v : Value) : w.grownBy (w.setCell ⟨B, o, none⟩ v) (some B) :=
  ⟨rfl, rfl, rfl, by simp, fun _ _ hne => Below.heap_setCell _ _ _ _ (fun e => hne (by rw [e]))⟩

theorem ogtrans {a b c : World} {r : Option Nat} (h : a.grownBy b r) (k : b.grownBy c r) : a.grownBy c r :=
  ⟨k.os.trans h.os, k.tape.trans h.tape, k.output.trans h.output, Nat.le_trans h.size k.size, fun i hi hr => (k.block i (Nat.lt_of_lt_of_le hi h.size) hr).trans (h.block i hi hr)⟩

theorem ogbelow {w w' : World} {B : Nat} (r : Option Nat) (h : Below B w w') (hB : w.heap.size ≤ B) : w.grownBy w' r :=
  ⟨h.os, h.tape, h.output, h.size, fun i hi _ => h.block i (by omega)⟩

theorem ogdraws (w : World) (n : Nat) (r : Option Nat) : w.grownBy (w.drewN n) r := ogbelow (B := w.heap.size) _ (Go.Joins.below_draws _ _ _) (Nat.le_refl _)

end Go.Proofs.YtabepbaldadmgaaDoor
