import Derived.Test.YtgjmbjahgcndnaaGreatDoorRows
import Derived.WalkKit
import Derived.WalkSpells
import Derived.WalkLawsBesides
import Derived.Deep.RegionHeld3
import Derived.BigQuiet
import Derived.Lib.ParseIntB
import Derived.Lib.Strings
import Derived.Lib.Split
import Derived.Lib.Join
import Derived.Shelf.Abstract
import Derived.Laws.EntriesVeiled
import Derived.Maps.AppendAt
import Derived.Deep.DeepCutAuto
import Derived.Lib.ConvBytes
import Derived.Lib.ParseIntBMem
import Derived.Lib.AtoiErrMem
import Derived.Lib.Hide
import Derived.Laws.Strings3
import Derived.Laws.Closers25
import Derived.Laws.Closers25b
import Derived.BigCall
import Derived.BigGuard
import Derived.WalkSmall
import Derived.Lib.IndexBytes
import Derived.Lib.SmallJoins
import Derived.Laws.CopyOwn
import Derived.Deep.OwnRows
import Derived.Lib.ItoaMem
import Derived.Lib.AppendIntMem
import Derived.Lib.ItoaLen
import Derived.Laws.BytesArg
import Derived.Lib.SplitLaws
import Derived.Deep.AppendSrc
namespace Go.Proofs.YtgjmbjahgcndnaaGreatDoor.Xp
open Go.RowKit
theorem qO {a b : Bool} (h : a = b) : Ending.returned (.bool a) = .returned (.bool b) := by rw [h]
theorem qR {k : IntKind} {a b : Int} (h : a = b) : Ending.returned (.int k a) = .returned (.int k b) := by rw [h]
def qy (c : Int) : Bool := decide (97 <= c /\ c <= 122 \/ 65 <= c /\ c <= 90 \/ c = 95 \/ c = 46)
def qAK (c : Int) : Bool := decide (48 <= c /\ c <= 57)
def qBu (c : Int) : Bool := decide (c ≠ 46) && (qy c || qAK c)
theorem qAG (c : Int) (w : World) :
  Calls Tryz.prog 99 #[.int .u8 c] w fun e w' => e = .returned (.bool (qAK c)) /\ w' = w := by
 by_cases h1 : 48 <= c
 all_goals by_cases h2 : c <= 57
 all_goals
  go_enter Tryz.func99, Tryz.ntmps99
  go_wp2
  go_ret
  exact ⟨qO (by simp [qAK]; omega), rfl⟩
theorem qw (c : Int) (w : World) :
  Calls Tryz.prog 102 #[.int .u8 c] w fun e w' => e = .returned (.bool (qy c)) /\ w' = w := by
 by_cases h1 : 97 <= c
 all_goals by_cases h2 : c <= 122
 all_goals by_cases h3 : 65 <= c
 all_goals by_cases h4 : c <= 90
 all_goals by_cases h5 : c = 95
 all_goals by_cases h6 : c = 46
 all_goals first
  | (exfalso; omega)
  | (have e5 : (c == 95) = decide (c = 95) := by rfl
     have e6 : (c == 46) = decide (c = 46) := by rfl
     simp only [h5, h6] at e5 e6
     go_enter Tryz.func102, Tryz.ntmps102
     go_wp2
     go_ret
     exact ⟨qO (by first | (simp [qy]; omega) | simp [qy]), rfl⟩)
structure Tok where
 kind : Int
 n : Int
 text : List UInt8
def pb (p : Int -> Bool) (c : UInt8) : Bool := p (c.toNat : Int)
theorem index9 (s : ByteArray) (k : Nat) (i : Int) (hi : i = (k : Int)) (hk : k < s.size) (w : World) : (Instr.index 9 (.string s) (.int .i64 i)).run Tryz.prog w = .ok (.int .u8 (s[k].toNat : Int)) w := by
 subst hi
 simp [Instr.index, run_underlying Tryz.underlying9, asIntOf, hk]
def qAz (f : FuncId) : Prop := ∀ args w, (callFunc f args).run Tryz.prog w = .ok (.enter f args) w
def Asks (f : FuncId) (p : Int -> Bool) : Prop := ∀ (c : UInt8) (w : World), Calls Tryz.prog f #[.int .u8 (c.toNat : Int)] w fun e w' => e = .returned (.bool (p c.toNat)) /\ w' = w
def qW (p : Int -> Bool) (l : List UInt8) : Nat := (l.takeWhile (pb p)).length
theorem qA9 {s : ByteArray} {k : Nat} (hk : k < s.size) : s.data.toList.drop k = s[k] :: s.data.toList.drop (k + 1) := by
 have h : k < s.data.toList.length := by simpa using hk
 rw [List.drop_eq_getElem_cons h]
 rfl
theorem qCM {p : Int -> Bool} {s : ByteArray} {k : Nat} (hk : k < s.size) (hp : p s[k].toNat = true) (h : qW p s.data.toList = k + qW p (s.data.toList.drop k)) :
  qW p s.data.toList = (k + 1) + qW p (s.data.toList.drop (k + 1)) := by
 rw [h, qA9 hk]
 have hp' : pb p s[k] = true := hp
 simp only [qW, List.takeWhile_cons, hp', if_true, List.length_cons]
 omega
theorem qCv {p : Int -> Bool} {s : ByteArray} {k : Nat} (hk : k < s.size) (hp : p s[k].toNat = false) (h : qW p s.data.toList = k + qW p (s.data.toList.drop k)) :
  qW p s.data.toList = k := by
 rw [h, qA9 hk]
 have hp' : pb p s[k] = false := hp
 simp [qW, hp']
theorem qCE {p : Int -> Bool} {s : ByteArray} {k : Nat} (hk : s.size <= k) (h : qW p s.data.toList = k + qW p (s.data.toList.drop k)) : qW p s.data.toList = k := by
 rw [h, List.drop_eq_nil_of_le (by simpa using hk)]
 simp [qW]
theorem qC3 (s : ByteArray) (f : FuncId) (p : Int -> Bool) (w : World) (hs : s.size <= 9223372036854775000) (he : qAz f) (hp : Asks f p) :
  Calls Tryz.prog 100 #[.string s, .func (.func f) #[] #[]] w fun e w' => e = .returned (.int .i64 (qW p s.data.toList)) /\ w' = w := by
 unfold qAz at he
 go_enter Tryz.func100, Tryz.ntmps100
 go_wp2
 go_loop [5] (fun i => ∃ k : Nat, k <= s.size /\ i = .int .i64 k /\ Hid (qW p s.data.toList = k + qW p (s.data.toList.drop k))) (fun i => s.size - (intOf i).toNat)
 case atStart => exact ⟨0, Nat.zero_le _, rfl, by simp [Hid]⟩
 case round =>
  obtain ⟨k, hk, rfl, HS⟩ := hrel
  by_cases hlt : k < s.size
  ·have hk1 : (k : Int) < s.size := by omega
   have hidx := index9 s k k rfl hlt
   cases hb : p (s[k].toNat : Int)
   ·go_wp2_with fail
    refine (hp _ _).mono ?_
    rintro e w1 ⟨rfl, rfl⟩
    simp only [hb]
    go_wp2
    go_ret
    exact ⟨qR (by rw [qCv hlt hb HS.out]), rfl⟩
   ·go_wp2_with fail
    refine (hp _ _).mono ?_
    rintro e w1 ⟨rfl, rfl⟩
    simp only [hb]
    go_wp2
    exact ⟨⟨k + 1, by omega, by go_num, qCM hlt hb HS.out⟩, by simp [intOf]; omega⟩
  ·have hk1 : ¬ (k : Int) < s.size := by omega
   go_wp2
   go_ret
   exact ⟨qR (by rw [qCE (by omega) HS.out]), rfl⟩
theorem qDI (c : UInt8) (w : World) :
  Calls Tryz.prog 101 #[.int .u8 (c.toNat : Int)] w fun e w' => e = .returned (.bool (qBu c.toNat)) /\ w' = w := by
 by_cases h0 : (c.toNat : Int) = 46
 ·have e0 : ((c.toNat : Int) == 46) = true := by simp [h0]
  go_enter Tryz.func101, Tryz.ntmps101
  go_wp2
  go_ret
  exact ⟨qO (by simp [qBu, h0]), rfl⟩
 ·have e0 : ((c.toNat : Int) == 46) = false := by simp [h0]
  cases h1 : qy c.toNat
  ·cases h2 : qAK c.toNat
   all_goals
    go_enter Tryz.func101, Tryz.ntmps101
    go_wp2_with (first | (go_at_call 102; refine (qw _ _).mono ?_; rintro e w' ⟨rfl, rfl⟩; simp only [h1]) | (go_at_call 99; refine (qAG _ _).mono ?_; rintro e w' ⟨rfl, rfl⟩; simp only [h2]))
    go_ret
    exact ⟨qO (by simp [qBu, h1, h2, h0]), rfl⟩
  ·go_enter Tryz.func101, Tryz.ntmps101
   go_wp2_with (go_at_call 102; refine (qw _ _).mono ?_; rintro e w' ⟨rfl, rfl⟩; simp only [h1])
   go_ret
   exact ⟨qO (by simp [qBu, h1, h0]), rfl⟩
theorem enters52 : qAz 101 := enters_of Tryz.func101 (by kernel_rfl) rfl
theorem qCc {s : ByteArray} (h : s.data.toList = []) : s = ⟨#[]⟩ := by
 apply ByteArray.ext
 exact Array.toList_inj.1 h
theorem qAQ {s : ByteArray} {l : List UInt8} (h : s.data.toList = l) : s.size = l.length := by rw [<- h]; exact Array.length_toList.symm
def qL (l : List UInt8) : Bool := match l with
 | [] => false
 | c :: r => decide (r.length < 10) && !pb qAK c && (c :: r).all (pb qBu)
theorem qCN (p : Int -> Bool) : ∀ l : List UInt8, decide (qW p l = l.length) = l.all (pb p)
 | [] => rfl
 | c :: r => by
   have ih := qCN p r
   simp only [qW, List.takeWhile_cons, List.all_cons] at ih ⊢
   cases hc : pb p c
   ·simp
   ·rw [<- ih]; simp only [if_true, List.length_cons, Bool.true_and, Nat.add_right_cancel_iff]; exact decide_eq_decide.2 Iff.rfl
theorem qCg (s : ByteArray) (w : World) :
  Calls Tryz.prog 75 #[.string s] w fun e w' => e = .returned (.bool (qL s.data.toList)) /\ w' = w := by
 have hlen := qAQ (rfl : s.data.toList = _)
 cases hl : s.data.toList with
 | nil =>
   have hs : s = ⟨#[]⟩ := qCc hl
   subst hs
   go_enter Tryz.func75, Tryz.ntmps75
   go_wp2
   go_ret
   exact ⟨rfl, rfl⟩
 | cons c r =>
   rw [hl] at hlen
   simp only [List.length_cons] at hlen
   have h0 : 0 < s.size := by omega
   have h1 : ¬ (s.size : Int) < 1 := by omega
   by_cases h10 : (10 : Int) < s.size
   ·have HF : Hid (qL (c :: r) = false) := by
     have : ¬ r.length < 10 := by omega
     simp [Hid, qL, this]
    clear hlen
    go_enter Tryz.func75, Tryz.ntmps75
    go_wp2
    go_ret
    exact ⟨qO HF.out.symm, rfl⟩
   ·have hat : s[0] = c := by
     have := qA9 h0
     rw [List.drop_zero, hl] at this
     injection this with h1 _
     exact h1.symm
    have hidx := index9 s 0 0 rfl h0
    rw [hat] at hidx
    cases hd : qAK c.toNat
    ·have HF : Hid (qL (c :: r) = decide (qW qBu (c :: r) = (c :: r).length)) := by
      have h2 : r.length < 10 := by omega
      have h3 : pb qAK c = false := hd
      rw [qCN]
      simp [Hid, qL, h2, h3]
     have hsp : ∀ w, Calls Tryz.prog 100 #[.string s, .func (.func 101) #[] #[]] w fun e w' => e = .returned (.int .i64 (qW qBu (c :: r))) /\ w' = w := by
      intro w
      have := qC3 s 101 qBu w (by omega) enters52 (fun c w => qDI c w)
      rw [hl] at this
      exact this
     have hsz : (s.size : Int) = ((c :: r).length : Nat) := by simp; omega
     rw [HF.out]
     clear HF hl hat
     go_enter Tryz.func75, Tryz.ntmps75
     go_wp2_with (first | (go_at_call 99; refine (qAG _ _).mono ?_; rintro e w' ⟨rfl, rfl⟩; simp only [hd]) | (go_at_call 100; refine (hsp _).mono ?_; rintro e w' ⟨rfl, rfl⟩))
     go_ret
     refine ⟨qO ?_, rfl⟩
     show decide (((qW qBu (c :: r) : Nat) : Int) = (r.length : Int) + 1) = _
     exact decide_eq_decide.2 (by omega)
    ·have HF : Hid (qL (c :: r) = false) := by
      have h3 : pb qAK c = true := hd
      simp [Hid, qL, h3]
     clear hlen hl hat
     go_enter Tryz.func75, Tryz.ntmps75
     go_wp2_with (go_at_call 99; refine (qAG _ _).mono ?_; rintro e w' ⟨rfl, rfl⟩; simp only [hd])
     go_ret
     exact ⟨qO HF.out.symm, rfl⟩
inductive Ex where
 | mk (kind n : Int) (name : List UInt8) (kids : List Ex)
structure Va where
 name : List UInt8
 n : Int
def sgn (n : Int) : Int := wrap32 n
def qGG (name : List UInt8) : List (List UInt8 × Int) -> Option Int
 | [] => none
 | x :: r => if x.1 = name then some x.2 else qGG name r
def opR (kind x y : Int) : Int :=
 if kind = 5 then wrap32 (x * y)
 else if kind = 6 then wrap32 (x + y)
 else if kind = 7 then wrap32 (x - y)
 else if kind = 8 then wrap32 ((x % 4294967296) * 2 ^ ((y % 4294967296) % 32).toNat)
 else if kind = 9 then wrap32 ((x % 4294967296) / 2 ^ ((y % 4294967296) % 32).toNat)
 else if kind = 10 then bits .and .i32 x y
 else bits .or .i32 x y
def qBJ (kind : Int) (a b : List UInt8) : Option (List UInt8) :=
 if a = [] /\ b = [] then some []
 else if kind = 7 /\ a = b then some []
 else if kind = 7 /\ b = [] then some a
 else if kind = 6 /\ a = [] then some b
 else if kind = 6 /\ b = [] then some a
 else none
def Ex.kind : Ex -> Int | .mk k _ _ _ => k
def Ex.n : Ex -> Int | .mk _ n _ _ => n
def Ex.name : Ex -> List UInt8 | .mk _ _ t _ => t
def exV (e : Ex) (kv : Value) : Value := .agg #[.int .i64 e.kind, .int .i64 e.n, .string ⟨e.name.toArray⟩, kv]
def qDd (w : World) (v : Value) (l : List (List UInt8 × Int)) : Prop :=
 ∃ ad cap, v = .slice ad l.length cap /\ l.length <= maxLen /\ (0 < l.length -> ∃ b o, ad = some ⟨b, o, none⟩ /\ b < w.heap.size /\ ∀ i (h : i < l.length),
  w.cell? ⟨b, o + i * 2, none⟩ = some (.string ⟨l[i].1.toArray⟩) /\ w.cell? ⟨b, o + i * 2 + 1, none⟩ = some (.int .i64 l[i].2))
theorem qDd.below {w w' : World} {B : Nat} {v : Value} {l : List (List UInt8 × Int)} (h : qDd w v l) (hb : Below B w w') (hB : w.heap.size <= B) : qDd w' v l := by
 obtain ⟨ad, cap, rfl, hm, hc⟩ := h
 refine ⟨ad, cap, rfl, hm, fun h0 => ?_⟩
 obtain ⟨b, o, rfl, hlt, hcell⟩ := hc h0
 refine ⟨b, o, rfl, Nat.lt_of_lt_of_le hlt hb.size, fun i hi => ?_⟩
 rw [hb.cell (by show b < B; omega), hb.cell (by show b < B; omega)]
 exact hcell i hi
theorem qDd.nil (w : World) : qDd w (.slice none 0 0) [] := ⟨none, 0, rfl, Nat.zero_le _, fun h => by simp at h⟩
def vaV (v : Va) : Value := .agg #[.string ⟨v.name.toArray⟩, .int .i64 v.n]
def evalV : Except Int Va -> Value
 | .ok v => .tuple #[vaV v, .int .i64 0]
 | .error x => .tuple #[.agg #[.string ⟨#[]⟩, .int .i64 0], .int .i64 x]
theorem qH2 (n : Int) : IntKind.i32.wrap n = wrap32 n := by
 simp [IntKind.wrap, IntKind.bits, IntKind.signed, wrap32]
 split <;> omega
end Go.Proofs.YtgjmbjahgcndnaaGreatDoor.Xp
