import Derived.Lib.ParseIntB
import Derived.Lib.Strings
import Derived.Lib.Split
import Derived.Laws.EntriesVeiled
import Derived.Maps.AppendAt
import Derived.Deep.DeepCutAuto
import Derived.Lib.ConvBytes
import Derived.Lib.ParseIntBMem
import Derived.Lib.AtoiErrMem
import Derived.Lib.Hide
import Derived.Laws.Strings3
import Derived.Laws.Closers25
import Derived.Laws.Closers25b
import Derived.BigCall
import Derived.BigGuard
import Derived.WalkSmall
import Derived.Lib.IndexBytes
import Derived.Lib.SmallJoins
import Derived.Laws.CopyOwn
import Derived.Deep.OwnRows
import Derived.Lib.ItoaMem
import Derived.Lib.AppendIntMem
import Derived.Lib.ItoaLen
import Derived.Laws.BytesArg
import Derived.Lib.SplitLaws
import Derived.Deep.AppendSrc
import Derived.Test.YtgjmbjahgcndnaaGreatDoorPut1
set_option maxHeartbeats 1000000
namespace Go.Proofs.YtgjmbjahgcndnaaGreatDoor
open Go.RowKit
theorem qO {a b : Bool} (h : a = b) : Ending.returned (.bool a) = .returned (.bool b) := by rw [h]
theorem qR {k : IntKind} {a b : Int} (h : a = b) : Ending.returned (.int k a) = .returned (.int k b) := by rw [h]
def qy (c : Int) : Bool := decide (97 <= c /\ c <= 122 \/ 65 <= c /\ c <= 90 \/ c = 95 \/ c = 46)
def qAK (c : Int) : Bool := decide (48 <= c /\ c <= 57)
def qBu (c : Int) : Bool := decide (c ≠ 46) && (qy c || qAK c)
def pb (p : Int -> Bool) (c : UInt8) : Bool := p (c.toNat : Int)
theorem index9 (s : ByteArray) (k : Nat) (i : Int) (hi : i = (k : Int)) (hk : k < s.size) (w : World) : (Instr.index 9 (.string s) (.int .i64 i)).run Tryz.prog w = .ok (.int .u8 (s[k].toNat : Int)) w := by
 subst hi
 simp [Instr.index, run_underlying Tryz.underlying9, asIntOf, hk]
theorem qA9 {s : ByteArray} {k : Nat} (hk : k < s.size) : s.data.toList.drop k = s[k] :: s.data.toList.drop (k + 1) := by
 have h : k < s.data.toList.length := by simpa using hk
 rw [List.drop_eq_getElem_cons h]
 rfl
theorem qCc {s : ByteArray} (h : s.data.toList = []) : s = ⟨#[]⟩ := by
 apply ByteArray.ext
 exact Array.toList_inj.1 h
def qL (l : List UInt8) : Bool := match l with
 | [] => false
 | c :: r => decide (r.length < 10) && !pb qAK c && (c :: r).all (pb qBu)
def qg (w : World) (v : Value) (l : List UInt8) : Prop :=
 ∃ ad cap, v = .slice ad l.length cap /\ l.length <= maxLen /\ (0 < l.length -> ∃ b o, ad = some ⟨b, o, none⟩ /\ b < w.heap.size /\ ∀ i (h : i < l.length),
  w.cell? ⟨b, o + i, none⟩ = some (.int .u8 (l[i].toNat : Int)))
def qAw (w : World) (v : Value) (l : List Sy) : Prop :=
 ∃ ad cap, v = .slice ad l.length cap /\ (l.length <= maxLen /\ l.length <= cap) /\ (0 < l.length -> ∃ b o, ad = some ⟨b, o, none⟩ /\ b < w.heap.size /\ ∀ i (h : i < l.length),
  w.cell? ⟨b, o + i * 2, none⟩ = some (.string ⟨l[i].name.toArray⟩) /\ w.cell? ⟨b, o + i * 2 + 1, none⟩ = some (.int .i64 l[i].pos))
def qDG (w : World) (v : Value) (l : List Re) : Prop :=
 ∃ ad cap, v = .slice ad l.length cap /\ l.length <= maxLen /\ (0 < l.length -> ∃ b o, ad = some ⟨b, o, none⟩ /\ b < w.heap.size /\ ∀ i (h : i < l.length),
  w.cell? ⟨b, o + i * 4, none⟩ = some (.int .i64 l[i].pos) /\ w.cell? ⟨b, o + i * 4 + 1, none⟩ = some (.int .i64 l[i].size) /\
  w.cell? ⟨b, o + i * 4 + 2, none⟩ = some (.string ⟨l[i].name.toArray⟩) /\ w.cell? ⟨b, o + i * 4 + 3, none⟩ = some (.int .i64 l[i].add))
theorem qg.below {w w' : World} {B : Nat} {v : Value} {l : List UInt8} (h : qg w v l) (hb : Below B w w') (hB : w.heap.size <= B) : qg w' v l := by
 obtain ⟨ad, cap, rfl, hm, hc⟩ := h
 refine ⟨ad, cap, rfl, hm, fun h0 => ?_⟩
 obtain ⟨b, o, rfl, hlt, hcell⟩ := hc h0
 refine ⟨b, o, rfl, Nat.lt_of_lt_of_le hlt hb.size, fun i hi => ?_⟩
 rw [hb.cell (by show b < B; omega)]
 exact hcell i hi
theorem qAw.below {w w' : World} {B : Nat} {v : Value} {l : List Sy} (h : qAw w v l) (hb : Below B w w') (hB : w.heap.size <= B) : qAw w' v l := by
 obtain ⟨ad, cap, rfl, hm, hc⟩ := h
 refine ⟨ad, cap, rfl, hm, fun h0 => ?_⟩
 obtain ⟨b, o, rfl, hlt, hcell⟩ := hc h0
 refine ⟨b, o, rfl, Nat.lt_of_lt_of_le hlt hb.size, fun i hi => ?_⟩
 rw [hb.cell (by show b < B; omega), hb.cell (by show b < B; omega)]
 exact hcell i hi
theorem qDG.below {w w' : World} {B : Nat} {v : Value} {l : List Re} (h : qDG w v l) (hb : Below B w w') (hB : w.heap.size <= B) : qDG w' v l := by
 obtain ⟨ad, cap, rfl, hm, hc⟩ := h
 refine ⟨ad, cap, rfl, hm, fun h0 => ?_⟩
 obtain ⟨b, o, rfl, hlt, hcell⟩ := hc h0
 refine ⟨b, o, rfl, Nat.lt_of_lt_of_le hlt hb.size, fun i hi => ?_⟩
 rw [hb.cell (by show b < B; omega), hb.cell (by show b < B; omega), hb.cell (by show b < B; omega), hb.cell (by show b < B; omega)]
 exact hcell i hi
theorem qE (w : World) (o : Obj) : Below w.heap.size w (w.alloc o) := (Below.refl _ _).alloc (Nat.le_refl _) _
theorem qEk {nm : List UInt8 -> Bool} {len : Nat} {l : List Sy} {k : Nat} (hk : k < l.length) : qAR nm len (l.take k) (l.drop k) = if qB8 nm len (l.take k) l[k] = 0 then qAR nm len (l.take (k + 1)) (l.drop (k + 1)) else qB8 nm len (l.take k) l[k] := by
 rw [List.drop_eq_getElem_cons hk, qAR, List.take_succ_eq_append_getElem hk]
theorem qGU {nm : List UInt8 -> Bool} {len : Nat} {l : List Sy} {k : Nat} (hk : l.length <= k) : qAR nm len (l.take k) (l.drop k) = 0 := by
 rw [List.drop_eq_nil_of_le hk]; rfl
theorem qI1 {nm : List UInt8 -> Bool} {len : Nat} {l : List Re} {k : Nat} {last : Int} (hk : k < l.length) : qAs nm len last (l.drop k) = if qBA nm len last l[k] = 0 then qAs nm len (l[k].pos + l[k].size) (l.drop (k + 1)) else qBA nm len last l[k] := by
 rw [List.drop_eq_getElem_cons hk, qAs]
theorem qGg {nm : List UInt8 -> Bool} {len : Nat} {l : List Re} {k : Nat} {last : Int} (hk : l.length <= k) : qAs nm len last (l.drop k) = 0 := by
 rw [List.drop_eq_nil_of_le hk]; rfl
def obV (cv sv rv : Value) : Value := .agg #[cv, sv, rv]
namespace Og
end Og
def byF (l : List UInt8) (i : Nat) : Int := ((l.getD i 0).toNat : Int)
theorem ogset (w : World) (B o : Nat) (v : Value) : w.grownBy (w.setCell ⟨B, o, none⟩ v) (some B) :=
 ⟨rfl, rfl, rfl, by simp, fun _ _ hne => Below.heap_setCell _ _ _ _ (fun e => hne (by rw [e]))⟩
theorem ogbelow {w w' : World} {B : Nat} (r : Option Nat) (h : Below B w w') (hB : w.heap.size <= B) : w.grownBy w' r :=
 ⟨h.os, h.tape, h.output, h.size, fun i hi _ => h.block i (by omega)⟩
def tokV (k n : Int) (t : ByteArray) : Value := .agg #[.int .i64 k, .int .i64 n, .string t]
theorem qDD (k n : Int) (t : ByteArray) (w : World) : Calls Tryz.prog 91 #[tokV k n t] w fun r w' => r = .returned (.bool (k == 1)) /\ Below w.heap.size w w' := by
 unfold tokV
 go_enter Tryz.func91, Tryz.ntmps91
 go_wp2
 go_ret
 exact ⟨rfl, qE w _⟩
theorem qFz (k n : Int) (t : ByteArray) (w : World) : Calls Tryz.prog 146 #[tokV k n t] w fun r w' => r = .returned (.bool (k == 1)) /\ Below w.heap.size w w' := by
 unfold tokV
 go_enter Tryz.func146, Tryz.ntmps146
 go_wp2
 go_ret
 exact ⟨rfl, qE w _⟩
theorem qBq (k n : Int) (t s : ByteArray) (w : World) : Calls Tryz.prog 125 #[tokV k n t, .string s] w fun r w' => r = .returned (.bool (k == 3 && t.toList == s.toList)) /\ Below w.heap.size w w' := by
 unfold tokV
 by_cases h : k = 3
 ·subst h
  go_enter Tryz.func125, Tryz.ntmps125
  go_wp2
  go_ret
  exact ⟨qO (by simp), qE w _⟩
 ·go_enter Tryz.func125, Tryz.ntmps125
  go_wp2
  go_ret
  exact ⟨qO (by simp [h]), qE w _⟩
theorem qCG (k n : Int) (t : ByteArray) (w : World) : Calls Tryz.prog 152 #[tokV k n t] w fun r w' => r = .returned (.bool (k == 3 && t.toList == [44])) /\ Below w.heap.size w w' := by
 unfold tokV
 by_cases h : k = 3
 ·subst h
  go_enter Tryz.func152, Tryz.ntmps152
  go_wp2
  go_ret
  exact ⟨qO (by simp), qE w _⟩
 ·go_enter Tryz.func152, Tryz.ntmps152
  go_wp2
  go_ret
  exact ⟨qO (by simp [h]), qE w _⟩
structure Tk where
 k : Int
 n : Int
 t : ByteArray
def Tk.V (x : Tk) : Value := tokV x.k x.n x.t
def qI (w : World) (v : Value) (ts : List Tk) : Prop :=
 ∃ ad cap, v = .slice ad ts.length cap /\ ts.length <= cap /\ cap <= maxLen /\ (0 < ts.length -> ∃ b o, ad = some ⟨b, o, none⟩ /\ b < w.heap.size /\ ∀ i (h : i < ts.length),
  w.cell? ⟨b, o + i * 4, none⟩ = some (.int .i64 ts[i].k) /\ w.cell? ⟨b, o + i * 4 + 1, none⟩ = some (.int .i64 ts[i].n) /\ w.cell? ⟨b, o + i * 4 + 2, none⟩ = some (.string ts[i].t) /\ w.cell? ⟨b, o + i * 4 + 3, none⟩ = some (.pointer none))
theorem qI.below {w w' : World} {B : Nat} {v : Value} {ts : List Tk} (h : qI w v ts) (hb : Below B w w') (hB : w.heap.size <= B) : qI w' v ts := by
 obtain ⟨ad, cap, rfl, hc, hm, h⟩ := h
 refine ⟨ad, cap, rfl, hc, hm, fun h0 => ?_⟩
 obtain ⟨b, o, rfl, hlt, hcell⟩ := h h0
 refine ⟨b, o, rfl, Nat.lt_of_lt_of_le hlt hb.size, fun i hi => ?_⟩
 have := hcell i hi
 rw [hb.cell (by show b < B; omega), hb.cell (by show b < B; omega), hb.cell (by show b < B; omega), hb.cell (by show b < B; omega)]
 exact this
theorem qI.nil (w : World) : qI w (.slice none 0 0) [] := ⟨none, 0, rfl, Nat.le_refl _, Nat.zero_le _, fun h => by simp at h⟩
theorem next_nil (ad : Option Addr) (cap : Nat) (w : World) : Calls Tryz.prog 90 #[.slice ad 0 cap] w fun r w' => r = .returned (.tuple #[tokV 0 0 ⟨#[]⟩, .slice none 0 0]) /\ Below w.heap.size w w' := by
 unfold tokV
 go_enter Tryz.func90, Tryz.ntmps90
 go_wp2
 exact bodyPost_ret (v := .tuple #[.agg #[.int .i64 0, .int .i64 0, .string ⟨#[]⟩], .slice none 0 0]) (by simp [results, Tryz.results90, go_sem]) rfl ⟨rfl, qE w _⟩
theorem qF9 (b o len cap : Nat) (k n : Int) (t : ByteArray) (w : World) (ad : Option Addr) (HA : Hid ((if cap = 0 then some (⟨b, o, none⟩ : Addr) else some ⟨b, o + 4, none⟩) = ad)) (_ : len <= cap) (_ : cap + 1 <= maxLen) (_ : b < w.heap.size)
  (c0 : w.cell? ⟨b, o, none⟩ = some (.int .i64 k)) (c1 : w.cell? ⟨b, o + 1, none⟩ = some (.int .i64 n)) (c2 : w.cell? ⟨b, o + 2, none⟩ = some (.string t)) (c3 : w.cell? ⟨b, o + 3, none⟩ = some (.pointer none)) :
  Calls Tryz.prog 90 #[.slice (some ⟨b, o, none⟩) (len + 1) (cap + 1)] w fun r w' => r = .returned (.tuple #[tokV k n t, .slice ad len cap]) /\ Below w.heap.size w w' := by
 unfold tokV
 go_enter Tryz.func90, Tryz.ntmps90
 go_wp2
 go_region
 rw [HA.out]
 go_wp2
 exact bodyPost_ret (v := .tuple #[.agg #[.int .i64 k, .int .i64 n, .string t], .slice ad len cap]) (by simp [results, Tryz.results90, go_sem]) rfl ⟨rfl, (qE w _).drew⟩
def qBQ : List Tk -> Tk
 | [] => ⟨0, 0, ⟨#[]⟩⟩
 | x :: _ => x
theorem qBN (v : Value) (ts : List Tk) (w : World) (h : qI w v ts) :
  Calls Tryz.prog 90 #[v] w fun r w' => (∃ v', r = .returned (.tuple #[(qBQ ts).V, v']) /\ qI w v' ts.tail) /\ Below w.heap.size w w' := by
 obtain ⟨ad, cap, rfl, hc, hm, h⟩ := h
 cases ts with
 | nil =>
   refine (next_nil ad cap w).mono ?_
   rintro e w' ⟨rfl, hb⟩
   exact ⟨⟨_, rfl, qI.nil w⟩, hb⟩
 | cons x r =>
   obtain ⟨b, o, rfl, hlt, hcell⟩ := h (by simp)
   obtain ⟨cap, rfl⟩ : ∃ c, cap = c + 1 := ⟨cap - 1, by simp at hc; omega⟩
   have c := hcell 0 (by simp)
   simp only [Nat.zero_mul, Nat.add_zero, List.getElem_cons_zero] at c
   have hc' : r.length <= cap := by simpa using hc
   refine (qF9 b o r.length cap x.k x.n x.t w _ (Lib.hid rfl) hc' hm hlt c.1 c.2.1 c.2.2.1 c.2.2.2).mono ?_
   rintro e w' ⟨rfl, hb⟩
   refine ⟨⟨_, rfl, _, cap, rfl, hc', by omega, fun h0 => ?_⟩, hb⟩
   have h0' : 0 < r.length := h0
   refine ⟨b, o + 4, by rw [if_neg (by omega)], hlt, fun i hi => ?_⟩
   have hi' : i < r.length := hi
   have := hcell (i + 1) (by simp; omega)
   simp only [List.getElem_cons_succ] at this
   rw [show o + (i + 1) * 4 = o + 4 + i * 4 by omega] at this
   exact this
theorem qBn (v : Value) (ts : List Tk) (w : World) (h : qI w v ts) :
  Calls Tryz.prog 122 #[v] w fun r w' => (∃ v', r = .returned v' /\ qI w v' ts.tail) /\ Below w.heap.size w w' := by
 have HN := Lib.hid (qBN v ts w h)
 unfold Tk.V tokV at HN
 clear h
 go_enter Tryz.func122, Tryz.ntmps122
 go_wp2_with (go_at_call 90; refine HN.out.mono ?_; clear HN; rintro e w1 ⟨⟨v', rfl, hv⟩, hb1⟩)
 go_ret
 exact ⟨⟨_, rfl, hv⟩, hb1.alloc hb1.size _⟩
theorem qEE (v : Value) (p e : Int) (w : World) :
  Calls Tryz.prog 87 #[.agg #[v, .int .i64 p], .int .i64 e] w fun r w' => r = .returned (if e = 0 then .agg #[.int .i64 0, .int .i64 0] else .agg #[.int .i64 e, .int .i64 p]) /\ Below w.heap.size w w' := by
 by_cases h : e = 0
 ·subst h
  rw [if_pos rfl]
  go_enter Tryz.func87, Tryz.ntmps87
  go_wp2
  exact bodyPost_ret (v := .agg #[.int .i64 0, .int .i64 0]) (by simp [results, Tryz.results87, go_sem]) rfl ⟨rfl, (qE w _).alloc (qE w _).size _⟩
 ·rw [if_neg h]
  go_enter Tryz.func87, Tryz.ntmps87
  go_wp2
  exact bodyPost_ret (v := .agg #[.int .i64 e, .int .i64 p]) (by simp [results, Tryz.results87, go_sem]) rfl ⟨rfl, (qE w _).alloc (qE w _).size _⟩
theorem head_nil (ad : Option Addr) (cap : Nat) (w : World) : Calls Tryz.prog 118 #[.slice ad 0 cap] w fun r w' => r = .returned (.string ⟨#[]⟩) /\ Below w.heap.size w w' := by
 go_enter Tryz.func118, Tryz.ntmps118
 go_wp2
 go_ret
 exact ⟨rfl, Below.refl _ _⟩
theorem qFc (b o len cap : Nat) (k n : Int) (t : ByteArray) (w : World)
  (_ : b < w.heap.size)
  (c0 : w.cell? ⟨b, o, none⟩ = some (.int .i64 k)) (c1 : w.cell? ⟨b, o + 1, none⟩ = some (.int .i64 n)) (c2 : w.cell? ⟨b, o + 2, none⟩ = some (.string t)) (c3 : w.cell? ⟨b, o + 3, none⟩ = some (.pointer none)) :
  Calls Tryz.prog 118 #[.slice (some ⟨b, o, none⟩) (len + 1) cap] w fun r w' => r = .returned (.string (if k = 1 then t else ⟨#[]⟩)) /\ Below w.heap.size w w' := by
 by_cases h : k = 1
 ·rw [if_pos h]
  go_enter Tryz.func118, Tryz.ntmps118
  go_wp2
  go_ret
  exact ⟨rfl, qE w _⟩
 ·rw [if_neg h]
  have h1 : (k == 1) = false := by simp [h]
  go_enter Tryz.func118, Tryz.ntmps118
  go_wp2
  go_ret
  exact ⟨rfl, qE w _⟩
def qA0 (ts : List Tk) : ByteArray := if (qBQ ts).k = 1 then (qBQ ts).t else ⟨#[]⟩
theorem qBx (v : Value) (ts : List Tk) (w : World) (h : qI w v ts) :
  Calls Tryz.prog 118 #[v] w fun r w' => r = .returned (.string (qA0 ts)) /\ Below w.heap.size w w' := by
 obtain ⟨ad, cap, rfl, hc, hm, h⟩ := h
 cases ts with
 | nil => exact head_nil ad cap w
 | cons x r =>
   obtain ⟨b, o, rfl, hlt, hcell⟩ := h (by simp)
   have c := hcell 0 (by simp)
   simp only [Nat.zero_mul, Nat.add_zero, List.getElem_cons_zero] at c
   exact qFc b o r.length cap x.k x.n x.t w hlt c.1 c.2.1 c.2.2.1 c.2.2.2
def itV (line size upTo align : Int) (far bytes : Value) : Value := .agg #[.int .i64 line, .int .i64 size, .int .i64 upTo, .int .i64 align, far, bytes]
theorem old2 (w : World) (a : Obj) {k : Nat} (h : k < w.heap.size) : (w.alloc a).heap[k]? = w.heap[k]? := Go.heap_alloc_old w a h
theorem qH (w : World) (o : Obj) {k : Nat} (h : k = w.heap.size) : (w.alloc o).heap[k]? = some o := by subst h; exact heap_alloc_new w o
theorem qJw (op n m imm : Int) (w : World) : Calls Tryz.prog 173 #[.agg #[.int .i64 op, .int .i64 n, .int .i64 m, .int .i64 imm]] w fun r w' =>
  (∃ g, r = .returned (itV 0 2 1 2 .nilFunc (.func (.func 205) #[] #[.pointer (some ⟨g, 0, none⟩)])) /\ w.heap.size <= g /\ w'.heap[g]? = some (.cells #[.int .i64 op, .int .i64 n, .int .i64 m, .int .i64 imm] 71 (0, 0))) /\ Below w.heap.size w w' := by
 unfold itV
 go_enter Tryz.func173, Tryz.ntmps173
 go_wp2
 exact bodyPost_ret (v := .agg #[.int .i64 0, .int .i64 2, .int .i64 1, .int .i64 2, .nilFunc, .func (.func 205) #[] #[.pointer (some ⟨w.heap.size, 0, none⟩)]]) (by simp [results, Tryz.results173, go_sem]) rfl
  ⟨⟨_, rfl, Nat.le_refl _, by rw [old2 _ _ (by simp)]; exact heap_alloc_new w _⟩, (qE w _).alloc (qE w _).size _⟩
theorem qFd (gu gp : Nat) (ad : Option Addr) (cap : Nat) (w : World) (hu : w.cell? ⟨gu, 5, none⟩ = some (.pointer (some ⟨gp, 0, none⟩))) (hp : w.cell? ⟨gp, 1, none⟩ = some (.slice ad 0 cap)) :
  Calls Tryz.prog 72 #[.pointer (some ⟨gu, 0, none⟩)] w fun r w' => r = .returned (.tuple #[]) /\ w' = w := by
 go_enter Tryz.func72, Tryz.ntmps72
 go_wp2
 exact bodyPost_ret (v := .tuple #[]) (by simp [results, Tryz.results72, go_sem]) rfl ⟨rfl, rfl⟩
theorem qGO : (Tryz.prog.info? 5).map (fun i => (i.zero, i.size, i.bytes)) = some (some (.int .u8 0), 1, 1) := by kernel_rfl
theorem makeB (n : Nat) (h : n <= 100000) (w : World) : (Instr.makeSlice 31 (.int .i64 (n : Int)) (.int .i64 (n : Int))).run Tryz.prog w = .ok (.slice (some ⟨w.heap.size, 0, none⟩) n n) (w.alloc (.cells (madeCells #[.int .u8 0] n) 5)) :=
 run_make_row' 31 5 (.int .u8 0) 1 (by kernel_rfl) qGO rfl .i64 .i64 n (by omega) (by omega) w
end Go.Proofs.YtgjmbjahgcndnaaGreatDoor
namespace Go.Proofs.YtgjmbjahgcndnaaGreatDoor.Si
open Go.RowKit
theorem qA {w : World} {b i : Nat} {c : Array Value} {t : TypeId} {f : Nat × Nat} {v : Value} (h : w.heap[b]? = some (.cells c t f)) (hv : c[i]? = some v) : w.cell? ⟨b, i, none⟩ = some v := by
 unfold World.cell?
 simp only [h]
 exact hv
theorem qAy {P : Program} {md : Region.Mode} {ops : Array Oper} {Q : Exit -> Act -> World -> Prop} {S : World -> Prop} (i d : Nat) {oi : Oper} {v : Value} {fuel : Nat} {listed : Array Bool} {T : Array Value} {D : List Deferred} {w : World} (hi : ops[i]? = some oi) (hd : oi.dst = some d)
  (hs : Region.noSelect ops = true) (hf : Region.free md ops listed i = true) (hr : (Region.ready md ops listed).contains i = true)
  (hQ : ∀ c a w, Q (.panic c) (a.put oi.dst v) w -> Q (.panic c) a w) (hw : Region.wanted oi (yielded ops T) = true) (hy : ∀ w, S w -> (execOp (Act.eval ⟨T, D⟩) oi).run P w = .ok (.value v) w) (hS : S w)
  (h : wpAnyH P md ops Q S fuel (listed.setIfInBounds i true) ⟨T.setIfInBounds d v, D⟩ w) : wpAnyH P md ops Q S (fuel + 1) listed ⟨T, D⟩ w := by
 refine wpAnyH_take hi hs hf hr hQ (Or.inl ⟨hw, hy⟩) hS ?_
 rw [hd]
 exact h
theorem tk {P : Program} {md : Region.Mode} {ops : Array Oper} {Q : Exit -> Act -> World -> Prop} {S : World -> Prop} (i d : Nat) {oi : Oper} {v : Value} {fuel : Nat} {listed : Array Bool} {T : Array Value} {D : List Deferred} {w : World} (hS : S w)
  (h : wpAnyH P md ops Q S fuel (listed.setIfInBounds i true) ⟨T.setIfInBounds d v, D⟩ w) (hi : ops[i]? = some oi := by rfl) (hd : oi.dst = some d := by rfl)
  (hs : Region.noSelect ops = true := by kernel_rfl) (hf : Region.free md ops listed i = true := by kernel_rfl) (hr : (Region.ready md ops listed).contains i = true := by kernel_rfl)
  (hQ : ∀ c a w, Q (.panic c) (a.put oi.dst v) w -> Q (.panic c) a w := by exact fun _ _ _ h => h) (hw : Region.wanted oi (yielded ops T) = true := by rfl) (hy : ∀ w, S w -> (execOp (Act.eval ⟨T, D⟩) oi).run P w = .ok (.value v) w := by (intro w hSw; go_simp; try with_reducible rfl)) : wpAnyH P md ops Q S (fuel + 1) listed ⟨T, D⟩ w :=
 qAy i d hi hd hs hf hr hQ hw hy hS h
theorem sA {α : Type} (l : List α) (i : Nat) (a : α) : l.toArray.setIfInBounds i a = (l.set i a).toArray := by simp
theorem sB {α : Type} {x y : α} {l : List α} : (x :: l).set 0 y = y :: l := rfl
theorem sC {α : Type} {x y : α} {l : List α} {n : Nat} : (x :: l).set (n + 1) y = x :: l.set n y := rfl
theorem wr1 {P : Program} {md : Region.Mode} {ops : Array Oper} {Q : Exit -> Act -> World -> Prop} {S : World -> Prop} {fuel : Nat} {listed : Array Bool} {a : Act} {w : World} (i : Nat) {o : Oper}
  (h : ∀ K' : Act -> World -> Prop, Shut (∀ a w, S w -> (S w -> wpAnyH P md ops Q S fuel (listed.setIfInBounds i true) a w) -> K' a w) -> if Region.wanted o (yielded ops a.tmps) = true then Oper.wp P o a w K' Q else K' (a.put o.dst undef) w)
  (hr : Region.ready md ops listed = [i] := by kernel_rfl) (ho : ops[i]? = some o := by rfl) : wpAnyH P md ops Q S (fuel + 1) listed a w :=
 wpAnyH_ready hr (by simp) (AllReadyH.cons ho h AllReadyH.nil)
theorem tk2 {P : Program} {md : Region.Mode} {ops : Array Oper} {Q : Exit -> Act -> World -> Prop} {S : World -> Prop} (i d : Nat) {oi : Oper} {v : Value} {fuel : Nat} {listed : Array Bool} {T : Array Value} {D : List Deferred} {w : World} (hy : ∀ w, S w -> (execOp (Act.eval ⟨T, D⟩) oi).run P w = .ok (.value v) w) (hS : S w)
  (h : wpAnyH P md ops Q S fuel (listed.setIfInBounds i true) ⟨T.setIfInBounds d v, D⟩ w) (hi : ops[i]? = some oi := by rfl) (hd : oi.dst = some d := by rfl)
  (hs : Region.noSelect ops = true := by kernel_rfl) (hf : Region.free md ops listed i = true := by kernel_rfl) (hr : (Region.ready md ops listed).contains i = true := by kernel_rfl)
  (hQ : ∀ c a w, Q (.panic c) (a.put oi.dst v) w -> Q (.panic c) a w := by exact fun _ _ _ h => h) (hw : Region.wanted oi (yielded ops T) = true := by rfl) : wpAnyH P md ops Q S (fuel + 1) listed ⟨T, D⟩ w :=
 qAy i d hi hd hs hf hr hQ hw hy hS h
end Go.Proofs.YtgjmbjahgcndnaaGreatDoor.Si
namespace Go.Proofs.YtgjmbjahgcndnaaGreatDoor.Li
open Go.RowKit
end Go.Proofs.YtgjmbjahgcndnaaGreatDoor.Li
namespace Go.Proofs.YtgjmbjahgcndnaaGreatDoor.Oi
open Go.RowKit
theorem info5 : (Tryz.prog.info? 5).map (fun i => (i.zero, i.size, i.bytes)) = some (some (.int .u8 0), 1, 1) := by kernel_rfl
theorem size5 : (Tryz.prog.info? 5).map (·.size) = some 1 := by kernel_rfl
def qAe (bs : Nat -> Int) (a size n : Int) (i : Nat) : Int :=
 if 0 <= (i : Int) - a /\ (i : Int) - a < size then n / 2 ^ (8 * (size - 1 - ((i : Int) - a))).toNat % 256 else bs i
def qAW (bs : Nat -> Int) (len : Nat) : List Value := (List.range len).map fun i => .int .u8 (bs i)
theorem qFN {wr : World} {g len p : Nat} {bs : Nat -> Int} {a size n : Int} (hlt : p < len)
  (hc : ∀ i, i < len -> wr.cell? ⟨g, i, none⟩ = some (.int .u8 (if i < p then qAe bs a size n i else bs i))) (hin : 0 <= (p : Int) - a /\ (p : Int) - a < size) :
  ∀ i, i < len -> (wr.setCell ⟨g, p, none⟩ (.int .u8 (n / 2 ^ (8 * (size - 1 - ((p : Int) - a))).toNat % 256))).cell? ⟨g, i, none⟩ = some (.int .u8 (if i < p + 1 then qAe bs a size n i else bs i)) := by
 intro i hi
 by_cases h : i = p
 ·subst h
  rw [World.cell?_setCell_same _ _ _ (hc i hlt), if_pos (by omega)]
  unfold qAe
  rw [if_pos hin]
 ·rw [World.cell?_setCell_other _ _ _ _ (by intro e; cases e; exact h rfl), hc i hi]
  by_cases h2 : i < p
  ·rw [if_pos h2, if_pos (by omega)]
  ·rw [if_neg h2, if_neg (by omega)]
theorem qCw {wr : World} {g len p : Nat} {bs : Nat -> Int} {a size n : Int}
  (hc : ∀ i, i < len -> wr.cell? ⟨g, i, none⟩ = some (.int .u8 (if i < p then qAe bs a size n i else bs i))) (hin : ¬ (0 <= (p : Int) - a /\ (p : Int) - a < size)) :
  ∀ i, i < len -> wr.cell? ⟨g, i, none⟩ = some (.int .u8 (if i < p + 1 then qAe bs a size n i else bs i)) := by
 intro i hi
 rw [hc i hi]
 by_cases h : i = p
 ·subst h
  rw [if_neg (by omega), if_pos (by omega)]
  unfold qAe
  rw [if_neg hin]
 ·by_cases h2 : i < p
  ·rw [if_pos h2, if_pos (by omega)]
  ·rw [if_neg h2, if_neg (by omega)]
theorem qGe (ad : Option Addr) (len cap : Nat) (bs : Nat -> Int) (a size n : Int) (w : World) (hlen : len <= 281474976710656)
  (hrow : 0 < len -> ∃ b off, ad = some ⟨b, off, none⟩ /\ ∀ i, i < len -> w.cell? ⟨b, off + i, none⟩ = some (.int .u8 (bs i)))
  (hs0 : 0 <= size) (hs1 : size <= 6) (ha0 : -1000000000 <= a) (ha1 : a <= 9223372036854775000) :
  Calls Tryz.prog 64 #[.slice ad len cap, .int .i64 a, .int .i64 size, .int .i64 n] w fun e w' => e = .returned (.slice (some ⟨w.heap.size, 0, none⟩) len len) /\ Below w.heap.size w w' /\ w.heap.size < w'.heap.size /\ ∀ i, i < len -> w'.cell? ⟨w.heap.size, i, none⟩ = some (.int .u8 (qAe bs a size n i)) := by
 have hmk := run_make_row' (P := Tryz.prog) 31 5 (.int .u8 0) 1 Tryz.underlying31 info5 rfl .i64 .i64 len (by omega) (by omega)
 have hsrc : 0 < (qAW bs len).length -> (some (⟨w.heap.size, 0, none⟩ : Addr)) = some ⟨w.heap.size, 0, none⟩ /\ ∃ x, ad = some x /\ ∀ j v, (qAW bs len)[j]? = some v -> (w.alloc (.cells (madeCells #[.int .u8 0] len) 5)).cell? (x.add j) = some v := by
  intro h0
  refine ⟨rfl, ?_⟩
  obtain ⟨b, off, rfl, hc⟩ := hrow (by simpa [qAW] using h0)
  refine ⟨_, rfl, fun j v hv => ?_⟩
  by_cases hj : j < len
  ·have := hc j hj
   have hb : b < w.heap.size := World.block_lt_of_cell? w _ this
   have hadd : (⟨b, off, none⟩ : Addr).add j = ⟨b, off + j, none⟩ := by simp [Addr.add]
   rw [hadd, World.cell?_alloc_lt _ _ _ (by simpa using hb), this]
   simpa [qAW, hj] using hv
  ·simp [qAW, hj] at hv
 have hone : ∀ v ∈ qAW bs len, v.oneCell' = true := by
  intro v hv
  simp [qAW] at hv
  obtain ⟨i, _, rfl⟩ := hv
  rfl
 have hrl : (qAW bs len).length = len := by simp [qAW]
 have H1 : (w.alloc (.cells (madeCells #[.int .u8 0] len) 5)).heap[w.heap.size]? = some (.cells (madeCells #[.int .u8 0] len).toList.toArray 5 (0, 0)) := by
  rw [heap_alloc_new]
 have H2 : (qAW bs len).length = Nat.min len len := by rw [hrl]; simp
 have H3 : 0 + (qAW bs len).length <= (madeCells #[.int .u8 0] len).toList.length := by rw [hrl]; simp [size_madeCells]
 have H4 : Below w.heap.size w (w.alloc (.cells (madeCells #[.int .u8 0] len) 5)) := (Below.refl _ _).alloc (Nat.le_refl _) _
 have hspl : splice (madeCells #[.int .u8 0] len).toList 0 (qAW bs len) = qAW bs len := by
  simp [splice, hrl, size_madeCells]
 have HSPL : Hid (splice (madeCells #[.int .u8 0] len).toList 0 (qAW bs len) = qAW bs len) := hspl
 clear hspl hrl hrow
 go_enter Tryz.func64, Tryz.ntmps64
 go_wp2_with (refine wpList_copy_splice rfl _ _ 31 31 rfl 5 Tryz.underlying31 size5 _ _ len len len cap rfl rfl w.heap.size 0 (madeCells #[.int .u8 0] len).toList 5 H1 (qAW bs len) H2 hsrc H3 hone w.heap.size w H4 (Nat.le_refl _) ?_; intro w2 HR hB2; clear H1 H2 H3 H4 hsrc hone hmk)
 have HR' : w2.heap[w.heap.size]? = some (.cells (qAW bs len).toArray 5 (0, 0)) := by rw [<- HSPL.out]; exact HR.out
 have hz2 : w.heap.size < w2.heap.size := by
  by_cases h : w.heap.size < w2.heap.size
  ·exact h
  ·rw [Array.getElem?_eq_none (by omega)] at HR'; simp at HR'
 have hcell2 : ∀ i, i < len -> w2.cell? ⟨w.heap.size, i, none⟩ = some (.int .u8 (bs i)) := by
  intro i hi
  simp [World.cell?, HR', qAW, hi]
 have hfro2 : ∀ i, w2.frozen? ⟨w.heap.size, i, none⟩ = false := by
  intro i
  simp [World.frozen?, HR']
 clear HR HR' HSPL
 go_loopw [20] (fun i wr => ∃ p : Nat, p <= len /\ i = .int .i64 p /\ Below w.heap.size w wr /\ w.heap.size < wr.heap.size /\ (∀ i, i < len -> wr.cell? ⟨w.heap.size, i, none⟩ = some (.int .u8 (if i < p then qAe bs a size n i else bs i))) /\ (∀ i, wr.frozen? ⟨w.heap.size, i, none⟩ = false)) (fun i _ => len - (intOf i).toNat)
 case atStart => exact ⟨0, Nat.zero_le _, rfl, hB2, hz2, by simpa using hcell2, hfro2⟩
 case round =>
  obtain ⟨p, hp, rfl, hB, hz, hcell, hfro⟩ := hrel
  clear hcell2 hfro2 hB2 hz2
  by_cases hlt : p < len
  ·have hp1 : (p : Int) < (len : Int) := by omega
   have hcp := hcell p hlt
   have hfp := hfro p
   have HC : Hid (∀ i, i < len -> wr.cell? ⟨w.heap.size, i, none⟩ = some (.int .u8 (if i < p then qAe bs a size n i else bs i))) := hcell
   have HF : Hid (∀ i, wr.frozen? ⟨w.heap.size, i, none⟩ = false) := hfro
   rw [if_neg (by omega)] at hcp
   clear hcell hfro
   by_cases hin : 0 <= (p : Int) - a /\ (p : Int) - a < size
   ·obtain ⟨hi0, hi1⟩ := hin
    go_wp2
    exact ⟨⟨p + 1, by omega, by go_num, hB.setCell (Nat.le_refl _) _, by simpa using hz, qFN hlt HC.out ⟨hi0, hi1⟩, fun i => by rw [World.frozen?_setCell]; exact HF.out i⟩, by simp [intOf]; omega⟩
   ·by_cases hi0 : 0 <= (p : Int) - a
    ·have hi1 : ¬ (p : Int) - a < size := by omega
     go_wp2
     exact ⟨⟨p + 1, by omega, by go_num, hB, hz, qCw HC.out (by omega), HF.out⟩, by simp [intOf]; omega⟩
    ·go_wp2
     exact ⟨⟨p + 1, by omega, by go_num, hB, hz, qCw HC.out (by omega), HF.out⟩, by simp [intOf]; omega⟩
  ·have hp1 : ¬ (p : Int) < (len : Int) := by omega
   have HC : Hid (∀ i, i < len -> wr.cell? ⟨w.heap.size, i, none⟩ = some (.int .u8 (qAe bs a size n i))) := by
    intro i hi
    have := hcell i hi
    rwa [if_pos (by omega)] at this
   clear hcell hfro
   go_wp2
   go_ret
   exact ⟨rfl, hB, hz, HC.out⟩
theorem qBC (n : Int) (w : World) :
  Calls Tryz.prog 58 #[.int .i64 n] w fun e w' => e = .returned (.int .i64 (wrap64 (wrap32 n))) /\ w' = w := by
 go_enter Tryz.func58, Tryz.ntmps58
 go_wp2
 go_ret
 exact ⟨rfl, rfl⟩
end Go.Proofs.YtgjmbjahgcndnaaGreatDoor.Oi
