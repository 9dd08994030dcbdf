/- What a name is; objects in memory: bytes, syms and relocs that slices read as; no function of the program. What a message is, what is wrong with it, its bytes, and the message of bytes: functions of lists; no program in this text. What a farm is, what a step, a round makes of it, as functions of lists; no program in this text. -/
import Derived.Test.YtbpoiajpcahdhaaGreatDoorObSpec
import Derived.Test.YtbpoiajpcahdhaaGreatDoorRows
import Derived.WalkKit
import Derived.WalkSpells
import Derived.WalkLawsBesides
import Derived.Deep.RegionHeld3
import Derived.BigQuiet
import Derived.Lib.ParseIntB
import Derived.Lib.Strings
import Derived.Lib.Split
import Derived.Laws.EntriesVeiled
import Derived.Maps.AppendAt
import Derived.Deep.DeepCutAuto
import Derived.Lib.ConvBytes
import Derived.Lib.ParseIntBMem
import Derived.Lib.AtoiErrMem
import Derived.Lib.Hide
import Derived.Laws.Strings3
import Derived.Laws.Closers25
import Derived.Laws.Closers25b
import Derived.BigCall
import Derived.BigGuard
import Derived.WalkSmall
import Derived.Lib.IndexBytes
import Derived.Lib.SmallJoins
import Derived.Laws.CopyOwn
import Derived.Deep.OwnRows
import Derived.Lib.ItoaMem
import Derived.Lib.AppendIntMem
import Derived.Lib.ItoaLen
import Derived.Laws.BytesArg
import Derived.Lib.SplitLaws
import Derived.Deep.AppendSrc
namespace Go.Proofs.YtbpoiajpcahdhaaGreatDoor
open Go.RowKit



theorem ret_bool {a b : Bool} (h : a = b) : Ending.returned (.bool a) = .returned (.bool b) := by rw [h]

theorem ret_int {k : IntKind} {a b : Int} (h : a = b) : Ending.returned (.int k a) = .returned (.int k b) := by rw [h]

/-- What bytes are. -/
def letterB (c : Int) : Bool := decide (97 ≤ c ∧ c ≤ 122 ∨ 65 ≤ c ∧ c ≤ 90 ∨ c = 95 ∨ c = 46)

def digitB (c : Int) : Bool := decide (48 ≤ c ∧ c ≤ 57)

def nameB (c : Int) : Bool := decide (c ≠ 46) && (letterB c || digitB c)

def pb (p : Int → Bool) (c : UInt8) : Bool := p (c.toNat : Int)

theorem index9 (s : ByteArray) (k : Nat) (i : Int) (hi : i = (k : Int)) (hk : k < s.size) (w : World) : (Instr.index 9 (.string s) (.int .i64 i)).run Tryz.prog w = .ok (.int .u8 (s[k].toNat : Int)) w := by
  subst hi
  simp [Instr.index, run_underlying Tryz.underlying9, asIntOf, hk]

theorem drop_at {s : ByteArray} {k : Nat} (hk : k < s.size) : s.data.toList.drop k = s[k] :: s.data.toList.drop (k + 1) := by
  have h : k < s.data.toList.length := by simpa using hk
  rw [List.drop_eq_getElem_cons h]
  rfl

theorem empty_of {s : ByteArray} (h : s.data.toList = []) : s = ⟨#[]⟩ := by
  apply ByteArray.ext
  exact Array.toList_inj.1 h

/-- Whether it is a name. -/
def nameR (l : List UInt8) : Bool := match l with
  | [] => false
  | c :: r => decide (r.length < 10) && !pb digitB c && (c :: r).all (pb nameB)

/-- The slice reads as bytes. -/
def OBytes (w : World) (v : Value) (l : List UInt8) : Prop :=
  ∃ ad cap, v = .slice ad l.length cap ∧ l.length ≤ maxLen ∧ (0 < l.length → ∃ b o, ad = some ⟨b, o, none⟩ ∧ b < w.heap.size ∧ ∀ i (h : i < l.length),
    w.cell? ⟨b, o + i, none⟩ = some (.int .u8 (l[i].toNat : Int)))

/-- The slice reads as syms. -/
def OSyms (w : World) (v : Value) (l : List Sy) : Prop :=
  ∃ ad cap, v = .slice ad l.length cap ∧ (l.length ≤ maxLen ∧ l.length ≤ cap) ∧ (0 < l.length → ∃ b o, ad = some ⟨b, o, none⟩ ∧ b < w.heap.size ∧ ∀ i (h : i < l.length),
    w.cell? ⟨b, o + i * 2, none⟩ = some (.string ⟨l[i].name.toArray⟩) ∧ w.cell? ⟨b, o + i * 2 + 1, none⟩ = some (.int .i64 l[i].pos))

/-- The slice reads as relocs. -/
def ORels (w : World) (v : Value) (l : List Re) : Prop :=
  ∃ ad cap, v = .slice ad l.length cap ∧ l.length ≤ maxLen ∧ (0 < l.length → ∃ b o, ad = some ⟨b, o, none⟩ ∧ b < w.heap.size ∧ ∀ i (h : i < l.length),
    w.cell? ⟨b, o + i * 4, none⟩ = some (.int .i64 l[i].pos) ∧ w.cell? ⟨b, o + i * 4 + 1, none⟩ = some (.int .i64 l[i].size) ∧
    w.cell? ⟨b, o + i * 4 + 2, none⟩ = some (.string ⟨l[i].name.toArray⟩) ∧ w.cell? ⟨b, o + i * 4 + 3, none⟩ = some (.int .i64 l[i].add))

theorem OBytes.below {w w' : World} {B : Nat} {v : Value} {l : List UInt8} (h : OBytes w v l) (hb : Below B w w') (hB : w.heap.size ≤ B) : OBytes w' v l := by
  obtain ⟨ad, cap, rfl, hm, hc⟩ := h
  refine ⟨ad, cap, rfl, hm, fun h0 => ?_⟩
  obtain ⟨b, o, rfl, hlt, hcell⟩ := hc h0
  refine ⟨b, o, rfl, Nat.lt_of_lt_of_le hlt hb.size, fun i hi => ?_⟩
  rw [hb.cell (by show b < B; omega)]
  exact hcell i hi

theorem OSyms.below {w w' : World} {B : Nat} {v : Value} {l : List Sy} (h : OSyms w v l) (hb : Below B w w') (hB : w.heap.size ≤ B) : OSyms w' v l := by
  obtain ⟨ad, cap, rfl, hm, hc⟩ := h
  refine ⟨ad, cap, rfl, hm, fun h0 => ?_⟩
  obtain ⟨b, o, rfl, hlt, hcell⟩ := hc h0
  refine ⟨b, o, rfl, Nat.lt_of_lt_of_le hlt hb.size, fun i hi => ?_⟩
  rw [hb.cell (by show b < B; omega), hb.cell (by show b < B; omega)]
  exact hcell i hi

theorem ORels.below {w w' : World} {B : Nat} {v : Value} {l : List Re} (h : ORels w v l) (hb : Below B w w') (hB : w.heap.size ≤ B) : ORels w' v l := by
  obtain ⟨ad, cap, rfl, hm, hc⟩ := h
  refine ⟨ad, cap, rfl, hm, fun h0 => ?_⟩
  obtain ⟨b, o, rfl, hlt, hcell⟩ := hc h0
  refine ⟨b, o, rfl, Nat.lt_of_lt_of_le hlt hb.size, fun i hi => ?_⟩
  rw [hb.cell (by show b < B; omega), hb.cell (by show b < B; omega), hb.cell (by show b < B; omega), hb.cell (by show b < B; omega)]
  exact hcell i hi

theorem oalloc (w : World) (o : Obj) : Below w.heap.size w (w.alloc o) := (Below.refl _ _).alloc (Nat.le_refl _) _

/-! Steps of the sums of errors. -/
theorem symsErr_at {nm : List UInt8 → Bool} {len : Nat} {l : List Sy} {k : Nat} (hk : k < l.length) : symsErr nm len (l.take k) (l.drop k) = if symErr nm len (l.take k) l[k] = 0 then symsErr nm len (l.take (k + 1)) (l.drop (k + 1)) else symErr nm len (l.take k) l[k] := by
  rw [List.drop_eq_getElem_cons hk, symsErr, List.take_succ_eq_append_getElem hk]

theorem symsErr_end {nm : List UInt8 → Bool} {len : Nat} {l : List Sy} {k : Nat} (hk : l.length ≤ k) : symsErr nm len (l.take k) (l.drop k) = 0 := by
  rw [List.drop_eq_nil_of_le hk]; rfl

theorem relsErr_at {nm : List UInt8 → Bool} {len : Nat} {l : List Re} {k : Nat} {last : Int} (hk : k < l.length) : relsErr nm len last (l.drop k) = if relErr nm len last l[k] = 0 then relsErr nm len (l[k].pos + l[k].size) (l.drop (k + 1)) else relErr nm len last l[k] := by
  rw [List.drop_eq_getElem_cons hk, relsErr]

theorem relsErr_end {nm : List UInt8 → Bool} {len : Nat} {l : List Re} {k : Nat} {last : Int} (hk : l.length ≤ k) : relsErr nm len last (l.drop k) = 0 := by
  rw [List.drop_eq_nil_of_le hk]; rfl

/-- An object's three slices as one value. -/
def obV (cv sv rv : Value) : Value := .agg #[cv, sv, rv]

namespace Og

def IsByte (bs : Nat → Int) : Prop := ∀ i, 0 ≤ bs i ∧ bs i ≤ 255

end Og


/-- Bytes as a function. -/
def byF (l : List UInt8) (i : Nat) : Int := ((l.getD i 0).toNat : Int)

theorem byF_byte (l : List UInt8) : Og.IsByte (byF l) := fun i => by have := (l.getD i 0).toNat_lt; unfold byF; omega

theorem ogtrans {a b c : World} {r : Option Nat} (h : a.grownBy b r) (k : b.grownBy c r) : a.grownBy c r :=
  ⟨k.os.trans h.os, k.tape.trans h.tape, k.output.trans h.output, Nat.le_trans h.size k.size, fun i hi hr => (k.block i (Nat.lt_of_lt_of_le hi h.size) hr).trans (h.block i hi hr)⟩

theorem ogbelow {w w' : World} {B : Nat} (r : Option Nat) (h : Below B w w') (hB : w.heap.size ≤ B) : w.grownBy w' r :=
  ⟨h.os, h.tape, h.output, h.size, fun i hi _ => h.block i (by omega)⟩

end Go.Proofs.YtbpoiajpcahdhaaGreatDoor

namespace Go.Proofs.YtbpoiajpcahdhaaGreatDoor.Wi
open Go.RowKit

structure Ms where
  kind : Int
  worker : Int
  unit : Int
  turn : Int
  err : Int
  place : Int
  data : List UInt8

/-- What goes with a message's kind. -/
def fitsM (m : Ms) : Prop := if m.kind = 3 then ((0 < m.err ∧ m.err ≤ 14) ∧ 0 ≤ m.place ∧ m.place < 65536) ∧ m.data.length = 0 else m.err = 0 ∧ m.place = 0
instance (m : Ms) : Decidable (fitsM m) := by unfold fitsM; infer_instance

def rangeM (m : Ms) : Prop := (0 ≤ m.worker ∧ m.worker < 3) ∧ (0 ≤ m.unit ∧ m.unit < 4) ∧ 0 ≤ m.turn ∧ m.turn < 65536
instance (m : Ms) : Decidable (rangeM m) := by unfold rangeM; infer_instance

/-- What is wrong with a message, or 0. -/
def wrongM (m : Ms) : Int :=
  if m.kind ≠ 1 ∧ m.kind ≠ 2 ∧ m.kind ≠ 3 then 1
  else if ¬ rangeM m then 3
  else if ¬ fitsM m then 8
  else if 1048576 < m.data.length then 4
  else 0

/-- The sum of bytes, from a number on. -/
def sumF (n : Int) (l : List UInt8) : Int := l.foldl (fun n c => (31 * n + c.toNat + 1) % 65521) n
def sumL (l : List UInt8) : Int := sumF 1 l

theorem sumF_bd {n : Int} (l : List UInt8) (h : 0 ≤ n ∧ n < 65521) : 0 ≤ sumF n l ∧ sumF n l < 65521 := by
  induction l generalizing n with
  | nil => exact h
  | cons c l ih => exact ih ⟨Int.emod_nonneg _ (by decide), Int.emod_lt_of_pos _ (by decide)⟩
theorem sumL_bd (l : List UInt8) : 0 ≤ sumL l ∧ sumL l < 65521 := sumF_bd l (by decide)
theorem sumF_snoc (n : Int) (l : List UInt8) (c : UInt8) : sumF n (l ++ [c]) = (31 * sumF n l + c.toNat + 1) % 65521 := by simp [sumF]
theorem sumL_take {l : List UInt8} {k : Nat} (h : k < l.length) : sumL (l.take (k + 1)) = (31 * sumL (l.take k) + l[k].toNat + 1) % 65521 := by
  rw [List.take_succ_eq_append_getElem h]; exact sumF_snoc _ _ _
def be2 (n : Int) : List UInt8 := [lowB (n / 256), lowB n]
/-- What stands ahead of the data, and what the sum is of. -/
def headM (m : Ms) : List UInt8 := [lowB m.kind, lowB m.worker, lowB m.unit, lowB (m.turn / 256), lowB m.turn, lowB m.err, lowB (m.place / 256), lowB m.place, lowB ((m.data.length : Int) / 16777216), lowB ((m.data.length : Int) / 65536), lowB ((m.data.length : Int) / 256), lowB (m.data.length : Int)]
def textM (m : Ms) : List UInt8 := headM m ++ m.data
def bytesM (m : Ms) : List UInt8 := textM m ++ be2 (sumL (textM m))
theorem headM_len (m : Ms) : (headM m).length = 12 := rfl
theorem textM_len (m : Ms) : (textM m).length = 12 + m.data.length := by rw [textM, List.length_append, headM_len]
theorem bytesM_len (m : Ms) : (bytesM m).length = 14 + m.data.length := by rw [bytesM, List.length_append, textM_len]; simp [be2]; omega

/-- The byte at a place, 0 where there is none. -/
def nB (b : List UInt8) (k : Nat) : Int := byF b k
def n2 (b : List UInt8) (k : Nat) : Int := nB b k * 256 + nB b (k + 1)
def n4 (b : List UInt8) (k : Nat) : Int := ((nB b k * 256 + nB b (k + 1)) * 256 + nB b (k + 2)) * 256 + nB b (k + 3)
theorem nB_bd (b : List UInt8) (k : Nat) : 0 ≤ nB b k ∧ nB b k ≤ 255 := byF_byte b k
/-- The message that bytes tell, whatever is wrong with it. -/
def msgOf (b : List UInt8) : Ms := ⟨nB b 0, nB b 1, nB b 2, n2 b 3, nB b 5, n2 b 6, (b.drop 12).take (b.length - 14)⟩
def goodB (b : List UInt8) : Prop := (b.length : Int) = 14 + n4 b 8 ∧ sumL (b.take (b.length - 2)) = n2 b (b.length - 2)
instance (b : List UInt8) : Decidable (goodB b) := by unfold goodB; infer_instance
def parseM (b : List UInt8) : Except Int Ms := if goodB b then (if wrongM (msgOf b) = 0 then .ok (msgOf b) else .error (wrongM (msgOf b))) else .error 2

theorem n4_nonneg (b : List UInt8) (k : Nat) : 0 ≤ n4 b k ∧ n4 b k < 4294967296 := by
  have h0 := nB_bd b k
  have h1 := nB_bd b (k + 1)
  have h2 := nB_bd b (k + 2)
  have h3 := nB_bd b (k + 3)
  unfold n4
  omega
theorem good_len {b : List UInt8} (h : goodB b) : 14 ≤ b.length ∧ b.length < 4294967310 := by
  have := n4_nonneg b 8
  have := h.1
  omega
theorem msgOf_len {b : List UInt8} (h : 14 ≤ b.length) : (msgOf b).data.length = b.length - 14 := by
  show ((b.drop 12).take (b.length - 14)).length = _
  rw [List.length_take, List.length_drop]; omega

theorem nB_app2 (a b : List UInt8) (k : Nat) : nB (a ++ b) (a.length + k) = nB b k := by
  unfold nB byF
  rw [List.getD_eq_getElem?_getD, List.getD_eq_getElem?_getD, List.getElem?_append_right (by omega), Nat.add_sub_cancel_left]

theorem right_of {m : Ms} (h : wrongM m = 0) : (m.kind = 1 ∨ m.kind = 2 ∨ m.kind = 3) ∧ rangeM m ∧ fitsM m ∧ m.data.length ≤ 1048576 := by
  unfold wrongM at h
  split at h
  · cases h
  · split at h
    · cases h
    · split at h
      · cases h
      · split at h
        · cases h
        · rename_i h1 h2 h3 h4
          exact ⟨by omega, Decidable.not_not.1 h2, Decidable.not_not.1 h3, by omega⟩
theorem right_err {m : Ms} (h : wrongM m = 0) : 0 ≤ m.err ∧ m.err ≤ 14 ∧ 0 ≤ m.place ∧ m.place < 65536 := by
  have := (right_of h).2.2.1
  unfold fitsM at this
  split at this <;> omega
/-- There, and back. -/
theorem head_back (m : Ms) (h : wrongM m = 0) (r : List UInt8) : nB (headM m ++ r) 0 = m.kind ∧ nB (headM m ++ r) 1 = m.worker ∧ nB (headM m ++ r) 2 = m.unit ∧ n2 (headM m ++ r) 3 = m.turn ∧ nB (headM m ++ r) 5 = m.err ∧ n2 (headM m ++ r) 6 = m.place ∧ n4 (headM m ++ r) 8 = m.data.length := by
  have h1 := right_of h
  have h2 := right_err h
  have h3 := h1.2.1
  unfold rangeM at h3
  have e : ∀ n : Int, ((lowB n).toNat : Int) = n % 256 := lowB_nat
  have g0 : nB (headM m ++ r) 0 = m.kind % 256 := e _
  have g1 : nB (headM m ++ r) 1 = m.worker % 256 := e _
  have g2 : nB (headM m ++ r) 2 = m.unit % 256 := e _
  have g3 : nB (headM m ++ r) 3 = m.turn / 256 % 256 := e _
  have g4 : nB (headM m ++ r) 4 = m.turn % 256 := e _
  have g5 : nB (headM m ++ r) 5 = m.err % 256 := e _
  have g6 : nB (headM m ++ r) 6 = m.place / 256 % 256 := e _
  have g7 : nB (headM m ++ r) 7 = m.place % 256 := e _
  have g8 : nB (headM m ++ r) 8 = (m.data.length : Int) / 16777216 % 256 := e _
  have g9 : nB (headM m ++ r) 9 = (m.data.length : Int) / 65536 % 256 := e _
  have g10 : nB (headM m ++ r) 10 = (m.data.length : Int) / 256 % 256 := e _
  have g11 : nB (headM m ++ r) 11 = (m.data.length : Int) % 256 := e _
  unfold n2 n4
  simp only [g0, g1, g2, g3, g4, g5, g6, g7, g8, g9, g10, g11]
  obtain ⟨hk, _, _, hd⟩ := h1
  refine ⟨by omega, by omega, by omega, by omega, by omega, by omega, by omega⟩

theorem n2_end (t : List UInt8) (n : Int) (h : 0 ≤ n ∧ n < 65536) : n2 (t ++ be2 n) t.length = n := by
  have e : ∀ n : Int, ((lowB n).toNat : Int) = n % 256 := lowB_nat
  unfold n2
  have g0 : nB (t ++ be2 n) t.length = n / 256 % 256 := by
    have := nB_app2 t (be2 n) 0
    rw [Nat.add_zero] at this
    rw [this]; exact e _
  have g1 : nB (t ++ be2 n) (t.length + 1) = n % 256 := by rw [nB_app2]; exact e _
  rw [g0, g1]; omega

theorem parse_bytesM (m : Ms) (h : wrongM m = 0) : parseM (bytesM m) = .ok m := by
  have hh := head_back m h (m.data ++ be2 (sumL (textM m)))
  have eb : bytesM m = headM m ++ (m.data ++ be2 (sumL (textM m))) := by rw [bytesM, textM, List.append_assoc]
  rw [← eb] at hh
  have hl := bytesM_len m
  have ht := textM_len m
  have hs := sumL_bd (textM m)
  have e2 : (bytesM m).length - 2 = (textM m).length := by omega
  have hg : goodB (bytesM m) := by
    refine ⟨by rw [hl, hh.2.2.2.2.2.2]; omega, ?_⟩
    rw [e2]
    have e3 : (bytesM m).take (textM m).length = textM m := List.take_left
    rw [e3]
    exact (n2_end _ _ (by omega)).symm
  have hm : msgOf (bytesM m) = m := by
    unfold msgOf
    rw [hh.1, hh.2.1, hh.2.2.1, hh.2.2.2.1, hh.2.2.2.2.1, hh.2.2.2.2.2.1, hl]
    have : (List.drop 12 (bytesM m)).take (14 + m.data.length - 14) = m.data := by
      rw [eb]
      have : List.drop 12 (headM m ++ (m.data ++ be2 (sumL (textM m)))) = m.data ++ be2 (sumL (textM m)) := rfl
      rw [this, Nat.add_sub_cancel_left]
      exact List.take_left
    rw [this]
  unfold parseM
  rw [if_pos hg, hm, if_pos h]

theorem low_nB (l : List UInt8) (k : Nat) (h : k < l.length) : lowB (nB l k) = l[k] := by
  have : nB l k = ((l[k]).toNat : Int) := by unfold nB byF; simp [List.getD_eq_getElem?_getD, h]
  rw [this, lowB_of]
theorem low_eq {n : Int} {l : List UInt8} {k : Nat} (h : k < l.length) (e : n % 256 = nB l k) : lowB n = l[k] := by
  rw [← low_nB l k h]
  unfold lowB
  rw [e]
  have := nB_bd l k
  rw [show nB l k % 256 = nB l k by omega]
theorem be2_n2 (l : List UInt8) (k : Nat) (h : k + 1 < l.length) : be2 (n2 l k) = [l[k], l[k + 1]] := by
  have h0 := nB_bd l k
  have h1 := nB_bd l (k + 1)
  unfold be2 n2
  rw [low_eq (l := l) (k := k) (by omega) (by omega), low_eq (l := l) (k := k + 1) h (by omega)]

/-- Bytes that are read are their message's. -/
theorem bytes_parseM {b : List UInt8} {m : Ms} (h : parseM b = .ok m) : wrongM m = 0 ∧ bytesM m = b := by
  unfold parseM at h
  split at h
  case isFalse => cases h
  rename_i hg
  split at h
  case isFalse => cases h
  rename_i hw
  injection h with h
  subst h
  refine ⟨hw, ?_⟩
  have hl := good_len hg
  have hd := msgOf_len hl.1
  have h4 := n4_nonneg b 8
  have hlen : ((msgOf b).data.length : Int) = n4 b 8 := by have := hg.1; omega
  have hhead : headM (msgOf b) = b.take 12 := by
    have k0 := nB_bd b 0
    have k1 := nB_bd b 1
    have k2 := nB_bd b 2
    have k3 := nB_bd b 3
    have k4 := nB_bd b 4
    have k5 := nB_bd b 5
    have k6 := nB_bd b 6
    have k7 := nB_bd b 7
    have k8 := nB_bd b 8
    have k9 := nB_bd b 9
    have k10 := nB_bd b 10
    have k11 := nB_bd b 11
    unfold headM
    rw [hlen]
    simp only [msgOf, n2, n4, Nat.reduceAdd]
    rw [low_eq (l := b) (k := 0) (by omega) (by omega), low_eq (l := b) (k := 1) (by omega) (by omega), low_eq (l := b) (k := 2) (by omega) (by omega), low_eq (l := b) (k := 3) (by omega) (by omega), low_eq (l := b) (k := 4) (by omega) (by omega), low_eq (l := b) (k := 5) (by omega) (by omega), low_eq (l := b) (k := 6) (by omega) (by omega), low_eq (l := b) (k := 7) (by omega) (by omega), low_eq (l := b) (k := 8) (by omega) (by omega), low_eq (l := b) (k := 9) (by omega) (by omega), low_eq (l := b) (k := 10) (by omega) (by omega), low_eq (l := b) (k := 11) (by omega) (by omega)]
    apply List.ext_getElem?
    intro i
    by_cases hi : i < 12
    · have : i = 0 ∨ i = 1 ∨ i = 2 ∨ i = 3 ∨ i = 4 ∨ i = 5 ∨ i = 6 ∨ i = 7 ∨ i = 8 ∨ i = 9 ∨ i = 10 ∨ i = 11 := by omega
      rw [List.getElem?_take_of_lt hi, List.getElem?_eq_getElem (l := b) (by omega)]
      rcases this with rfl | rfl | rfl | rfl | rfl | rfl | rfl | rfl | rfl | rfl | rfl | rfl <;> rfl
    · rw [List.getElem?_eq_none (by simp; omega), List.getElem?_eq_none (by simp; omega)]
  have htext : textM (msgOf b) = b.take (b.length - 2) := by
    unfold textM
    rw [hhead]
    show b.take 12 ++ (b.drop 12).take (b.length - 14) = _
    rw [show b.length - 14 = (b.length - 2) - 12 by omega, ← List.drop_take]
    have : List.take 12 b = List.take 12 (List.take (b.length - 2) b) := by rw [List.take_take, Nat.min_eq_left (by omega)]
    rw [this, List.take_append_drop]
  unfold bytesM
  rw [htext, hg.2, be2_n2 b (b.length - 2) (by omega)]
  have e1 : b.drop (b.length - 2) = [b[b.length - 2], b[b.length - 2 + 1]] := by
    rw [List.drop_eq_getElem_cons (by omega), List.drop_eq_getElem_cons (by omega), List.drop_eq_nil_of_le (by omega)]
  rw [← e1, List.take_append_drop]

end Go.Proofs.YtbpoiajpcahdhaaGreatDoor.Wi

namespace Go.Proofs.YtbpoiajpcahdhaaGreatDoor.Wi
open Go.RowKit

structure Jb where
  src : List UInt8
  worker : Int
  turn : Int
  wait : Int
  done : Bool
  obj : List UInt8
  err : Int
  place : Int

structure Fm where
  base : Int
  jobs : List Jb
  dead : List Bool
  way : List (List UInt8)

def heldJ (j : Jb) : Bool := decide (-1 < j.worker)
def waitJ (j : Jb) : Jb := if 4 ≤ j.wait + 1 then { j with worker := -1, wait := 0 } else { j with wait := j.wait + 1 }
def waitO (j : Jb) : Jb := if j.done = false ∧ heldJ j = true then waitJ j else j
def busyW (l : List Jb) (w : Int) : Bool := l.any fun j => !j.done && decide (j.worker = w)
/-- The first free worker from number 'frm + k' on, so many being left. -/
def freeK (l : List Jb) (many : Nat) (frm : Int) : Nat → Nat → Int
  | 0, _ => -1
  | n + 1, k => if busyW l ((frm + (k : Int)) % (many : Int)) then freeK l many frm n (k + 1) else (frm + (k : Int)) % (many : Int)
def freeL (l : List Jb) (many : Nat) (frm : Int) : Int := freeK l many frm many 0
def putF (f : Fm) (b : List UInt8) : Fm := if f.way.length < 12 then { f with way := f.way ++ [b] } else f
def sendF (f : Fm) (m : Ms) : Fm := if wrongM m = 0 then putF f (bytesM m) else f
def leaseM (k : Nat) (w : Int) (j : Jb) : Ms := ⟨1, w, k, j.turn + 1, 0, 0, j.src⟩
def leasedJ (w : Int) (j : Jb) : Jb := { j with worker := w, wait := 0, turn := j.turn + 1 }
def leaseF (f : Fm) (k : Nat) (j : Jb) : Fm :=
  if freeL f.jobs f.dead.length (j.turn + k) = -1 then f
  else sendF { f with jobs := f.jobs.set k (leasedJ (freeL f.jobs f.dead.length (j.turn + k)) j) } (leaseM k (freeL f.jobs f.dead.length (j.turn + k)) j)
def leaseAt (f : Fm) (k : Nat) : Fm := match f.jobs[k]? with
  | none => f
  | some j => if j.done = false ∧ heldJ j = false then leaseF f k j else f
/-- The first k jobs looked at. -/
def leasesK (f : Fm) : Nat → Fm
  | 0 => f
  | k + 1 => leaseAt (leasesK f k) k
def waitsF (f : Fm) : Fm := { f with jobs := f.jobs.map waitO }
def tickF (f : Fm) : Fm := leasesK (waitsF f) f.jobs.length
def endJ (j : Jb) (m : Ms) : Jb := if j.done = true ∨ j.turn < m.turn ∨ j.turn = 0 then j else { j with done := true, worker := -1, wait := 0, obj := m.data, err := m.err, place := m.place }
def live (d : List Bool) (w : Int) : Bool := d.getD w.toNat true == false
def comeF (U : Ms → Ms) (f : Fm) (b : List UInt8) : Fm := match parseM b with
  | .error _ => f
  | .ok m => match f.jobs[m.unit.toNat]? with
    | none => f
    | some j => if m.kind = 1 then (if live f.dead m.worker = true then sendF f (U m) else f) else { f with jobs := f.jobs.set m.unit.toNat (endJ j m) }
def goF (U : Ms → Ms) (f : Fm) : Fm := match f.way with
  | [] => f
  | b :: r => comeF U { f with way := r } b
def goAll (U : Ms → Ms) : Nat → Fm → Fm
  | 0, f => f
  | k + 1, f => if f.way = [] then f else goAll U k (goF U f)
def wt (b : List UInt8) : Nat := match parseM b with
  | .error _ => 1
  | .ok m => if m.kind = 1 then 2 else 1
def weight (f : Fm) : Nat := (f.way.map wt).sum
def roundF (U : Ms → Ms) (f : Fm) : Fm := goAll U (weight (tickF f)) (tickF f)
def doneF (f : Fm) : Bool := f.jobs.all fun j => j.done
/-- Behind so many rounds at most; and how many. -/
def settleF (U : Ms → Ms) : Nat → Fm → Fm × Nat
  | 0, f => (f, 0)
  | k + 1, f => if doneF f then (f, 0) else ((settleF U k (roundF U f)).1, (settleF U k (roundF U f)).2 + 1)
def newF (l : List (List UInt8)) (base : Int) (workers : Nat) : Fm := ⟨base, l.map fun s => ⟨s, -1, 0, 0, false, [], 0, 0⟩, List.replicate workers false, []⟩
def dieF (f : Fm) (n : Nat) : Fm := { f with dead := f.dead.set n (!f.dead.getD n false) }
def dropF (f : Fm) (n : Nat) : Fm := { f with way := f.way.eraseIdx n }

/-! Bounds. -/
structure JFine (T : Int) (j : Jb) : Prop where
  w0 : -1 ≤ j.worker
  w1 : j.worker < 3
  t0 : 0 ≤ j.turn
  t1 : j.turn ≤ T
  a0 : 0 ≤ j.wait
  a1 : j.wait ≤ 4
  sl : j.src.length ≤ 1200
  ol : j.obj.length ≤ 1048576
structure Fine (S : List UInt8 → Prop) (T : Int) (f : Fm) : Prop where
  j0 : 1 ≤ f.jobs.length
  j1 : f.jobs.length ≤ 4
  d0 : 1 ≤ f.dead.length
  d1 : f.dead.length ≤ 3
  wl : f.way.length ≤ 12
  job : ∀ j ∈ f.jobs, JFine T j ∧ S j.src
  way : ∀ b ∈ f.way, b.length ≤ 1048590 ∧ ∀ m, parseM b = .ok m → m.kind = 1 → S m.data

theorem JFine.mono {T T' : Int} {j : Jb} (h : JFine T j) (hT : T ≤ T') : JFine T' j := ⟨h.w0, h.w1, h.t0, by have := h.t1; omega, h.a0, h.a1, h.sl, h.ol⟩
theorem JFine.waited {T : Int} {j : Jb} (h : JFine T j) : JFine T (waitO j) := by
  unfold waitO waitJ
  split
  · split
    · exact ⟨by simp, by simp, h.t0, h.t1, by simp, by simp, h.sl, h.ol⟩
    · have := h.a0
      exact ⟨h.w0, h.w1, h.t0, h.t1, by simp; omega, by simp; omega, h.sl, h.ol⟩
  · exact h
theorem waitO_src (j : Jb) : (waitO j).src = j.src := by
  unfold waitO waitJ
  split
  · split <;> rfl
  · rfl
theorem waitO_done (j : Jb) : (waitO j).done = j.done := by
  unfold waitO waitJ
  split
  · split <;> rfl
  · rfl

theorem freeK_bd (l : List Jb) (many : Nat) (frm : Int) (hm : 0 < many) : ∀ n k, freeK l many frm n k = -1 ∨ (0 ≤ freeK l many frm n k ∧ freeK l many frm n k < many) := by
  intro n
  induction n with
  | zero => intro k; exact .inl rfl
  | succ n ih =>
    intro k
    unfold freeK
    split
    · exact ih (k + 1)
    · exact .inr ⟨Int.emod_nonneg _ (by omega), Int.emod_lt_of_pos _ (by omega)⟩
theorem freeL_bd (l : List Jb) (many : Nat) (frm : Int) (hm : 0 < many) : freeL l many frm = -1 ∨ (0 ≤ freeL l many frm ∧ freeL l many frm < many) := freeK_bd l many frm hm many 0

theorem Fine.mono {S : List UInt8 → Prop} {T T' : Int} {f : Fm} (h : Fine S T f) (hT : T ≤ T') : Fine S T' f := ⟨h.j0, h.j1, h.d0, h.d1, h.wl, fun j hj => ⟨(h.job j hj).1.mono hT, (h.job j hj).2⟩, h.way⟩
theorem Fine.put {S : List UInt8 → Prop} {T : Int} {f : Fm} (h : Fine S T f) {b : List UInt8} (hb : b.length ≤ 1048590 ∧ ∀ m, parseM b = .ok m → m.kind = 1 → S m.data) : Fine S T (putF f b) := by
  unfold putF
  split
  · rename_i hl
    refine ⟨h.j0, h.j1, h.d0, h.d1, by simp; omega, h.job, fun c hc => ?_⟩
    simp only [List.mem_append, List.mem_singleton] at hc
    rcases hc with hc | rfl
    · exact h.way c hc
    · exact hb
  · exact h
theorem Fine.send {S : List UInt8 → Prop} {T : Int} {f : Fm} (h : Fine S T f) {m : Ms} (hm : m.kind = 1 → S m.data) : Fine S T (sendF f m) := by
  unfold sendF
  split
  · rename_i hw
    have := (right_of hw).2.2.2
    refine h.put ⟨by rw [bytesM_len]; omega, fun m' h1 h2 => ?_⟩
    rw [parse_bytesM m hw] at h1
    injection h1 with h1
    subst h1
    exact hm h2
  · exact h
theorem putF_jobs (f : Fm) (b : List UInt8) : (putF f b).jobs = f.jobs ∧ (putF f b).dead = f.dead ∧ (putF f b).base = f.base := by
  unfold putF; split <;> exact ⟨rfl, rfl, rfl⟩
theorem sendF_jobs (f : Fm) (m : Ms) : (sendF f m).jobs = f.jobs ∧ (sendF f m).dead = f.dead ∧ (sendF f m).base = f.base := by
  unfold sendF; split
  · exact putF_jobs _ _
  · exact ⟨rfl, rfl, rfl⟩

theorem leased_fine {T : Int} {j : Jb} {w : Int} (h : JFine T j) (h0 : 0 ≤ w) (h1 : w < 3) : JFine (T + 1) (leasedJ w j) := by
  have := h.t0
  have := h.t1
  exact ⟨by simp [leasedJ]; omega, by simpa [leasedJ] using h1, by simp [leasedJ]; omega, by simp [leasedJ]; omega, by simp [leasedJ], by simp [leasedJ], h.sl, h.ol⟩
/-- What is known of a farm while leases are given: the jobs looked at may have one turn more. -/
structure Fine2 (S : List UInt8 → Prop) (T : Int) (k : Nat) (f : Fm) : Prop where
  fine : Fine S (T + 1) f
  rest : ∀ i j, k ≤ i → f.jobs[i]? = some j → JFine T j
theorem leaseAt_fine {S : List UInt8 → Prop} {T : Int} {k : Nat} {f : Fm} (h : Fine2 S T k f) : Fine2 S T (k + 1) (leaseAt f k) := by
  unfold leaseAt
  split
  · exact ⟨h.fine, fun i j hi => h.rest i j (by omega)⟩
  · rename_i j hj
    split
    case isFalse => exact ⟨h.fine, fun i j hi => h.rest i j (by omega)⟩
    unfold leaseF
    split
    · exact ⟨h.fine, fun i j hi => h.rest i j (by omega)⟩
    · rename_i _ hw
      have hb := freeL_bd f.jobs f.dead.length (j.turn + k) (by have := h.fine.d0; omega)
      generalize freeL f.jobs f.dead.length (j.turn + k) = w at *
      have h1 := h.fine.d1
      have hf : Fine S (T + 1) { f with jobs := f.jobs.set k (leasedJ w j) } := by
        refine ⟨by simpa using h.fine.j0, by simpa using h.fine.j1, h.fine.d0, h.fine.d1, h.fine.wl, fun x hx => ?_, h.fine.way⟩
        rcases List.mem_or_eq_of_mem_set hx with hx | rfl
        · exact h.fine.job x hx
        · exact ⟨leased_fine (h.rest k j (Nat.le_refl _) hj) (by omega) (by omega), (h.fine.job j (List.mem_of_getElem? hj)).2⟩
      refine ⟨hf.send (fun _ => (h.fine.job j (List.mem_of_getElem? hj)).2), fun i x hi hx => ?_⟩
      rw [(sendF_jobs _ _).1] at hx
      simp only [List.getElem?_set] at hx
      rw [if_neg (by omega)] at hx
      exact h.rest i x (by omega) hx
theorem leaseF_len (f : Fm) (k : Nat) (j : Jb) : (leaseF f k j).jobs.length = f.jobs.length ∧ (leaseF f k j).dead = f.dead ∧ (leaseF f k j).base = f.base := by
  unfold leaseF
  split
  · exact ⟨rfl, rfl, rfl⟩
  · have := sendF_jobs { f with jobs := f.jobs.set k (leasedJ (freeL f.jobs f.dead.length (j.turn + k)) j) } (leaseM k (freeL f.jobs f.dead.length (j.turn + k)) j)
    exact ⟨by rw [this.1]; simp, this.2.1, this.2.2⟩
theorem leaseAt_len (f : Fm) (k : Nat) : (leaseAt f k).jobs.length = f.jobs.length ∧ (leaseAt f k).dead = f.dead ∧ (leaseAt f k).base = f.base := by
  unfold leaseAt
  split
  · exact ⟨rfl, rfl, rfl⟩
  · split
    · exact leaseF_len _ _ _
    · exact ⟨rfl, rfl, rfl⟩
theorem leasesK_fine {S : List UInt8 → Prop} {T : Int} {f : Fm} (h : Fine2 S T 0 f) : ∀ k, Fine2 S T k (leasesK f k)
  | 0 => h
  | k + 1 => leaseAt_fine (leasesK_fine h k)
theorem leasesK_len (f : Fm) : ∀ k, (leasesK f k).jobs.length = f.jobs.length ∧ (leasesK f k).dead = f.dead ∧ (leasesK f k).base = f.base
  | 0 => ⟨rfl, rfl, rfl⟩
  | k + 1 => by
    have h := leasesK_len f k
    have g := leaseAt_len (leasesK f k) k
    exact ⟨g.1.trans h.1, g.2.1.trans h.2.1, g.2.2.trans h.2.2⟩
theorem Fine.waits {S : List UInt8 → Prop} {T : Int} {f : Fm} (h : Fine S T f) : Fine S T (waitsF f) := by
  refine ⟨by simpa [waitsF] using h.j0, by simpa [waitsF] using h.j1, h.d0, h.d1, h.wl, fun j hj => ?_, h.way⟩
  obtain ⟨x, hx, rfl⟩ := List.mem_map.1 hj
  rw [waitO_src]
  exact ⟨(h.job x hx).1.waited, (h.job x hx).2⟩
theorem Fine.two {S : List UInt8 → Prop} {T : Int} {f : Fm} (h : Fine S T f) : Fine2 S T 0 f := ⟨h.mono (by omega), fun _ j _ hj => (h.job j (List.mem_of_getElem? hj)).1⟩
theorem Fine.tick {S : List UInt8 → Prop} {T : Int} {f : Fm} (h : Fine S T f) : Fine S (T + 1) (tickF f) := (leasesK_fine h.waits.two _).fine
theorem tickF_len (f : Fm) : (tickF f).jobs.length = f.jobs.length ∧ (tickF f).dead = f.dead ∧ (tickF f).base = f.base := by
  have := leasesK_len (waitsF f) f.jobs.length
  exact ⟨this.1.trans (by simp [waitsF]), this.2⟩

theorem endJ_fine {T : Int} {j : Jb} {m : Ms} (h : JFine T j) (hm : m.data.length ≤ 1048576) : JFine T (endJ j m) ∧ (endJ j m).src = j.src := by
  unfold endJ
  split
  · exact ⟨h, rfl⟩
  · exact ⟨⟨by simp, by simp, h.t0, h.t1, by simp, by simp, h.sl, hm⟩, rfl⟩
theorem Fine.come {S : List UInt8 → Prop} {T : Int} {f : Fm} {U : Ms → Ms} (hU : ∀ m, (U m).kind ≠ 1) (h : Fine S T f) (b : List UInt8) : Fine S T (comeF U f b) := by
  unfold comeF
  split
  · exact h
  · rename_i m hm
    split
    · exact h
    · rename_i j hj
      split
      · split
        · exact h.send (fun h1 => absurd h1 (hU m))
        · exact h
      · refine ⟨by simpa using h.j0, by simpa using h.j1, h.d0, h.d1, h.wl, fun x hx => ?_, h.way⟩
        rcases List.mem_or_eq_of_mem_set hx with hx | rfl
        · exact h.job x hx
        · have hd := (right_of (bytes_parseM hm).1).2.2.2
          have hj2 := h.job j (List.mem_of_getElem? hj)
          have := endJ_fine hj2.1 hd
          exact ⟨this.1, by rw [this.2]; exact hj2.2⟩
theorem Fine.tail {S : List UInt8 → Prop} {T : Int} {f : Fm} (h : Fine S T f) {b : List UInt8} {r : List (List UInt8)} (hw : f.way = b :: r) : Fine S T { f with way := r } :=
  ⟨h.j0, h.j1, h.d0, h.d1, by have := h.wl; rw [hw] at this; simp at this; show r.length ≤ 12; omega, h.job, fun c hc => h.way c (by rw [hw]; exact List.mem_cons_of_mem _ hc)⟩
theorem Fine.go {S : List UInt8 → Prop} {T : Int} {f : Fm} {U : Ms → Ms} (hU : ∀ m, (U m).kind ≠ 1) (h : Fine S T f) : Fine S T (goF U f) := by
  unfold goF
  split
  · exact h
  · rename_i b r hw
    exact (h.tail hw).come hU b
theorem comeF_len (U : Ms → Ms) (f : Fm) (b : List UInt8) : (comeF U f b).jobs.length = f.jobs.length ∧ (comeF U f b).dead = f.dead ∧ (comeF U f b).base = f.base := by
  unfold comeF
  split
  · exact ⟨rfl, rfl, rfl⟩
  · split
    · exact ⟨rfl, rfl, rfl⟩
    · split
      · split
        · have := sendF_jobs f (U ‹Ms›)
          exact ⟨by rw [this.1], this.2⟩
        · exact ⟨rfl, rfl, rfl⟩
      · exact ⟨by simp, rfl, rfl⟩
theorem goF_len (U : Ms → Ms) (f : Fm) : (goF U f).jobs.length = f.jobs.length ∧ (goF U f).dead = f.dead ∧ (goF U f).base = f.base := by
  unfold goF
  split
  · exact ⟨rfl, rfl, rfl⟩
  · exact comeF_len U _ _

theorem wt_pos (b : List UInt8) : 1 ≤ wt b ∧ wt b ≤ 2 := by
  unfold wt
  split
  · omega
  · split <;> omega
theorem weight_put (f : Fm) (b : List UInt8) : weight (putF f b) ≤ weight f + wt b := by
  unfold putF
  split
  · simp [weight]
  · omega
theorem weight_go {U : Ms → Ms} (hU : ∀ m, (U m).kind ≠ 1) {f : Fm} (h : f.way ≠ []) : weight (goF U f) + 1 ≤ weight f := by
  unfold goF
  split
  · rename_i hw; exact absurd hw h
  · rename_i b r hw
    have e : weight f = wt b + weight { f with way := r } := by simp [weight, hw]
    have hp := wt_pos b
    unfold comeF
    split
    · omega
    · rename_i m hm
      split
      · omega
      · split
        · rename_i hk
          have e2 : wt b = 2 := by unfold wt; rw [hm]; simp [hk]
          split
          · unfold sendF
            split
            · rename_i hw2
              have e3 : wt (bytesM (U m)) = 1 := by unfold wt; rw [parse_bytesM _ hw2]; simp [hU m]
              have := weight_put { f with way := r } (bytesM (U m))
              omega
            · omega
          · omega
        · have e4 : weight { f with way := r, jobs := f.jobs.set m.unit.toNat (endJ ‹Jb› m) } = weight { f with way := r } := rfl
          show weight { f with way := r, jobs := f.jobs.set m.unit.toNat (endJ ‹Jb› m) } + 1 ≤ _
          omega
theorem weight_zero {f : Fm} (h : weight f = 0) : f.way = [] := by
  cases hw : f.way with
  | nil => rfl
  | cons b r =>
    have := (wt_pos b).1
    simp [weight, hw] at h
    omega
theorem goAll_step (U : Ms → Ms) {k : Nat} {f : Fm} (h : f.way ≠ []) : goAll U (k + 1) f = goAll U k (goF U f) := by
  show (if f.way = [] then f else goAll U k (goF U f)) = _
  rw [if_neg h]
theorem goAll_end (U : Ms → Ms) (k : Nat) {f : Fm} (h : f.way = []) : goAll U k f = f := by
  cases k with
  | zero => rfl
  | succ k => show (if f.way = [] then f else goAll U k (goF U f)) = _; rw [if_pos h]
theorem goAll_fine {S : List UInt8 → Prop} {T : Int} {U : Ms → Ms} (hU : ∀ m, (U m).kind ≠ 1) : ∀ (k : Nat) (f : Fm), Fine S T f → Fine S T (goAll U k f)
  | 0, _, h => h
  | k + 1, f, h => by
    unfold goAll
    split
    · exact h
    · exact goAll_fine hU k _ (h.go hU)
theorem goAll_len (U : Ms → Ms) : ∀ (k : Nat) (f : Fm), (goAll U k f).jobs.length = f.jobs.length ∧ (goAll U k f).dead = f.dead ∧ (goAll U k f).base = f.base
  | 0, _ => ⟨rfl, rfl, rfl⟩
  | k + 1, f => by
    unfold goAll
    split
    · exact ⟨rfl, rfl, rfl⟩
    · have h := goAll_len U k (goF U f)
      have g := goF_len U f
      exact ⟨h.1.trans g.1, h.2.1.trans g.2.1, h.2.2.trans g.2.2⟩
theorem goAll_clear {U : Ms → Ms} (hU : ∀ m, (U m).kind ≠ 1) : ∀ (k : Nat) (f : Fm), weight f ≤ k → (goAll U k f).way = []
  | 0, f, h => weight_zero (f := f) (by omega)
  | k + 1, f, h => by
    unfold goAll
    split
    · assumption
    · rename_i hw
      have := weight_go hU hw
      exact goAll_clear hU k _ (by omega)
theorem Fine.round {S : List UInt8 → Prop} {T : Int} {f : Fm} {U : Ms → Ms} (hU : ∀ m, (U m).kind ≠ 1) (h : Fine S T f) : Fine S (T + 1) (roundF U f) := goAll_fine hU _ _ h.tick
theorem roundF_len (U : Ms → Ms) (f : Fm) : (roundF U f).jobs.length = f.jobs.length ∧ (roundF U f).dead = f.dead ∧ (roundF U f).base = f.base := by
  have h := goAll_len U (weight (tickF f)) (tickF f)
  have g := tickF_len f
  exact ⟨h.1.trans g.1, h.2.1.trans g.2.1, h.2.2.trans g.2.2⟩

/-! Where all are dead. -/
structure DeadF (f : Fm) : Prop where
  dead : ∀ w, live f.dead w = false
  job : ∀ j ∈ f.jobs, j.done = false
  way : ∀ b ∈ f.way, ∀ m, parseM b = .ok m → m.kind = 1
theorem DeadF.send {f : Fm} (h : DeadF f) {m : Ms} (hm : m.kind = 1) : DeadF (sendF f m) := by
  unfold sendF
  split
  · rename_i hw
    unfold putF
    split
    · refine ⟨h.dead, h.job, fun b hb m' hm' => ?_⟩
      simp only [List.mem_append, List.mem_singleton] at hb
      rcases hb with hb | rfl
      · exact h.way b hb m' hm'
      · rw [parse_bytesM m hw] at hm'
        injection hm' with hm'
        subst hm'
        exact hm
    · exact h
  · exact h
theorem DeadF.leaseA {f : Fm} (h : DeadF f) (k : Nat) : DeadF (leaseAt f k) := by
  unfold leaseAt
  split
  · exact h
  · rename_i j hj
    split
    · unfold leaseF
      split
      · exact h
      · have h2 : DeadF { f with jobs := f.jobs.set k (leasedJ (freeL f.jobs f.dead.length (j.turn + k)) j) } := ⟨h.dead, fun x hx => by
          rcases List.mem_or_eq_of_mem_set hx with hx | rfl
          · exact h.job x hx
          · exact h.job j (List.mem_of_getElem? hj), h.way⟩
        exact DeadF.send (m := leaseM k (freeL f.jobs f.dead.length (j.turn + k)) j) h2 rfl
    · exact h
theorem DeadF.leases {f : Fm} (h : DeadF f) : ∀ k, DeadF (leasesK f k)
  | 0 => h
  | k + 1 => (DeadF.leases h k).leaseA k
theorem DeadF.tick {f : Fm} (h : DeadF f) : DeadF (tickF f) := by
  refine DeadF.leases (f := waitsF f) ⟨h.dead, fun j hj => ?_, h.way⟩ _
  obtain ⟨x, hx, rfl⟩ := List.mem_map.1 hj
  rw [waitO_done]
  exact h.job x hx
theorem DeadF.go {U : Ms → Ms} {f : Fm} (h : DeadF f) : DeadF (goF U f) := by
  unfold goF
  split
  · exact h
  · rename_i b r hw
    have h2 : DeadF { f with way := r } := ⟨h.dead, h.job, fun c hc => h.way c (by rw [hw]; exact List.mem_cons_of_mem _ hc)⟩
    unfold comeF
    split
    · exact h2
    · rename_i m hm
      split
      · exact h2
      · rw [if_pos (h.way b (by rw [hw]; exact List.mem_cons_self) m hm), if_neg (by rw [show live ({ f with way := r } : Fm).dead m.worker = false from h.dead _]; decide)]
        exact h2
theorem DeadF.allGo {U : Ms → Ms} : ∀ (k : Nat) {f : Fm}, DeadF f → DeadF (goAll U k f)
  | 0, _, h => h
  | k + 1, f, h => by
    unfold goAll
    split
    · exact h
    · exact DeadF.allGo k h.go
theorem DeadF.round {U : Ms → Ms} {f : Fm} (h : DeadF f) : DeadF (roundF U f) := DeadF.allGo _ h.tick
theorem DeadF.open {f : Fm} (h : DeadF f) (h0 : 1 ≤ f.jobs.length) : doneF f = false := by
  unfold doneF
  obtain ⟨j, l, e⟩ : ∃ j l, f.jobs = j :: l := by
    cases hh : f.jobs with
    | nil => rw [hh] at h0; simp at h0
    | cons j l => exact ⟨j, l, rfl⟩
  rw [e, List.all_cons, h.job j (by rw [e]; exact List.mem_cons_self)]
  rfl
theorem settle_dead {U : Ms → Ms} (hU : ∀ m, (U m).kind ≠ 1) : ∀ (k : Nat) (f : Fm), DeadF f → 1 ≤ f.jobs.length → f.way = [] → (settleF U k f).2 = k ∧ DeadF (settleF U k f).1 ∧ (settleF U k f).1.jobs.length = f.jobs.length ∧ (settleF U k f).1.way = []
  | 0, _, h, _, hw => ⟨rfl, h, rfl, hw⟩
  | k + 1, f, h, h0, hw => by
    unfold settleF
    rw [if_neg (by rw [h.open h0]; decide)]
    have hl := (roundF_len U f).1
    have ih := settle_dead hU k (roundF U f) h.round (by omega) (goAll_clear hU _ _ (Nat.le_refl _))
    exact ⟨by simp only; rw [ih.1], ih.2.1, ih.2.2.1.trans hl, ih.2.2.2⟩

end Go.Proofs.YtbpoiajpcahdhaaGreatDoor.Wi
