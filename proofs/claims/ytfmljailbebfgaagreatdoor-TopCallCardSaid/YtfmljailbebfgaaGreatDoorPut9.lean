import Derived.Test.YtfmljailbebfgaaGreatDoorRows
import Derived.WalkKit
import Derived.WalkSpells
import Derived.WalkLawsBesides
import Derived.Deep.RegionHeld3
import Derived.BigQuiet
import Derived.Lib.ParseIntB
import Derived.Lib.Strings
import Derived.Lib.Split
import Derived.Lib.Join
import Derived.Shelf.Abstract
import Derived.Laws.EntriesVeiled
import Derived.Maps.AppendAt
import Derived.Deep.DeepCutAuto
import Derived.Lib.ConvBytes
import Derived.Lib.ParseIntBMem
import Derived.Lib.AtoiErrMem
import Derived.Lib.Hide
import Derived.Laws.Strings3
import Derived.Laws.Closers25
import Derived.Laws.Closers25b
import Derived.BigCall
import Derived.BigGuard
import Derived.WalkSmall
import Derived.Lib.IndexBytes
import Derived.Lib.SmallJoins
import Derived.Laws.CopyOwn
import Derived.Deep.OwnRows
import Derived.Lib.ItoaMem
import Derived.Lib.AppendIntMem
import Derived.Lib.ItoaLen
import Derived.Laws.BytesArg
import Derived.Lib.SplitLaws
import Derived.Deep.AppendSrc
namespace Go.Proofs.YtfmljailbebfgaaGreatDoor.Xp
open Go.RowKit
theorem qQ {a b : Bool} (h : a = b) : Ending.returned (.bool a) = .returned (.bool b) := by rw [h]
theorem qU {k : IntKind} {a b : Int} (h : a = b) : Ending.returned (.int k a) = .returned (.int k b) := by rw [h]
def qAG (c : Int) : Bool := decide (97 <= c /\ c <= 122 \/ 65 <= c /\ c <= 90 \/ c = 95 \/ c = 46)
def qAS (c : Int) : Bool := decide (48 <= c /\ c <= 57)
def qCE (c : Int) : Bool := decide (c ≠ 46) && (qAG c || qAS c)
theorem qAO (c : Int) (w : World) :
  Calls Tryz.prog 101 #[.int .u8 c] w fun e w' => e = .returned (.bool (qAS c)) /\ w' = w := by
 by_cases h1 : 48 <= c
 all_goals by_cases h2 : c <= 57
 all_goals
  go_enter Tryz.func101, Tryz.ntmps101
  go_wp2
  go_ret
  exact ⟨qQ (by simp [qAS]; omega), rfl⟩
theorem qAF (c : Int) (w : World) :
  Calls Tryz.prog 104 #[.int .u8 c] w fun e w' => e = .returned (.bool (qAG c)) /\ w' = w := by
 by_cases h1 : 97 <= c
 all_goals by_cases h2 : c <= 122
 all_goals by_cases h3 : 65 <= c
 all_goals by_cases h4 : c <= 90
 all_goals by_cases h5 : c = 95
 all_goals by_cases h6 : c = 46
 all_goals first
  | (exfalso; omega)
  | (have e5 : (c == 95) = decide (c = 95) := by rfl
     have e6 : (c == 46) = decide (c = 46) := by rfl
     simp only [h5, h6] at e5 e6
     go_enter Tryz.func104, Tryz.ntmps104
     go_wp2
     go_ret
     exact ⟨qQ (by first | (simp [qAG]; omega) | simp [qAG]), rfl⟩)
structure Tok where
 kind : Int
 n : Int
 text : List UInt8
def pb (p : Int -> Bool) (c : UInt8) : Bool := p (c.toNat : Int)
def qHg (c : Int) : Bool := decide (c = 58 \/ c = 44 \/ c = 35 \/ c = 64 \/ c = 40 \/ c = 41 \/ c = 43 \/ c = 45 \/ c = 42 \/ c = 38 \/ c = 124 \/ c = 126 \/ c = 61)
def qBi (l : List UInt8) : Nat :=
 if Lib.hasPrefix l [60, 60] = true \/ Lib.hasPrefix l [62, 62] = true then 2
 else match l with
  | [] => 0
  | c :: _ => if pb qHg c = true then 1 else 0
theorem qs {p : UInt8 -> Bool} : ∀ l : List UInt8, (l.dropWhile p).length <= l.length
 | [] => by simp
 | c :: r => by
   have := qs (p := p) r
   simp only [List.dropWhile_cons]
   split <;> simp <;> omega
theorem index9 (s : ByteArray) (k : Nat) (i : Int) (hi : i = (k : Int)) (hk : k < s.size) (w : World) : (Instr.index 9 (.string s) (.int .i64 i)).run Tryz.prog w = .ok (.int .u8 (s[k].toNat : Int)) w := by
 subst hi
 simp [Instr.index, run_underlying Tryz.underlying9, asIntOf, hk]
def qA2 (f : FuncId) : Prop := ∀ args w, (callFunc f args).run Tryz.prog w = .ok (.enter f args) w
def Asks (f : FuncId) (p : Int -> Bool) : Prop := ∀ (c : UInt8) (w : World), Calls Tryz.prog f #[.int .u8 (c.toNat : Int)] w fun e w' => e = .returned (.bool (p c.toNat)) /\ w' = w
def qb (p : Int -> Bool) (l : List UInt8) : Nat := (l.takeWhile (pb p)).length
theorem qBB {s : ByteArray} {k : Nat} (hk : k < s.size) : s.data.toList.drop k = s[k] :: s.data.toList.drop (k + 1) := by
 have h : k < s.data.toList.length := by simpa using hk
 rw [List.drop_eq_getElem_cons h]
 rfl
theorem qCb {p : Int -> Bool} {s : ByteArray} {k : Nat} (hk : k < s.size) (hp : p s[k].toNat = true) (h : qb p s.data.toList = k + qb p (s.data.toList.drop k)) :
  qb p s.data.toList = (k + 1) + qb p (s.data.toList.drop (k + 1)) := by
 rw [h, qBB hk]
 have hp' : pb p s[k] = true := hp
 simp only [qb, List.takeWhile_cons, hp', if_true, List.length_cons]
 omega
theorem qDO {p : Int -> Bool} {s : ByteArray} {k : Nat} (hk : k < s.size) (hp : p s[k].toNat = false) (h : qb p s.data.toList = k + qb p (s.data.toList.drop k)) :
  qb p s.data.toList = k := by
 rw [h, qBB hk]
 have hp' : pb p s[k] = false := hp
 simp [qb, hp']
theorem qCc {p : Int -> Bool} {s : ByteArray} {k : Nat} (hk : s.size <= k) (h : qb p s.data.toList = k + qb p (s.data.toList.drop k)) : qb p s.data.toList = k := by
 rw [h, List.drop_eq_nil_of_le (by simpa using hk)]
 simp [qb]
theorem qDS (s : ByteArray) (f : FuncId) (p : Int -> Bool) (w : World) (hs : s.size <= 9223372036854775000) (he : qA2 f) (hp : Asks f p) :
  Calls Tryz.prog 102 #[.string s, .func (.func f) #[] #[]] w fun e w' => e = .returned (.int .i64 (qb p s.data.toList)) /\ w' = w := by
 unfold qA2 at he
 go_enter Tryz.func102, Tryz.ntmps102
 go_wp2
 go_loop [5] (fun i => ∃ k : Nat, k <= s.size /\ i = .int .i64 k /\ Hid (qb p s.data.toList = k + qb p (s.data.toList.drop k))) (fun i => s.size - (intOf i).toNat)
 case atStart => exact ⟨0, Nat.zero_le _, rfl, by simp [Hid]⟩
 case round =>
  obtain ⟨k, hk, rfl, HS⟩ := hrel
  by_cases hlt : k < s.size
  ·have hk1 : (k : Int) < s.size := by omega
   have hidx := index9 s k k rfl hlt
   cases hb : p (s[k].toNat : Int)
   ·go_wp2_with fail
    refine (hp _ _).mono ?_
    rintro e w1 ⟨rfl, rfl⟩
    simp only [hb]
    go_wp2
    go_ret
    exact ⟨qU (by rw [qDO hlt hb HS.out]), rfl⟩
   ·go_wp2_with fail
    refine (hp _ _).mono ?_
    rintro e w1 ⟨rfl, rfl⟩
    simp only [hb]
    go_wp2
    exact ⟨⟨k + 1, by omega, by go_num, qCb hlt hb HS.out⟩, by simp [intOf]; omega⟩
  ·have hk1 : ¬ (k : Int) < s.size := by omega
   go_wp2
   go_ret
   exact ⟨qU (by rw [qCc (by omega) HS.out]), rfl⟩
theorem qDX (c : UInt8) (w : World) :
  Calls Tryz.prog 103 #[.int .u8 (c.toNat : Int)] w fun e w' => e = .returned (.bool (qCE c.toNat)) /\ w' = w := by
 by_cases h0 : (c.toNat : Int) = 46
 ·have e0 : ((c.toNat : Int) == 46) = true := by simp [h0]
  go_enter Tryz.func103, Tryz.ntmps103
  go_wp2
  go_ret
  exact ⟨qQ (by simp [qCE, h0]), rfl⟩
 ·have e0 : ((c.toNat : Int) == 46) = false := by simp [h0]
  cases h1 : qAG c.toNat
  ·cases h2 : qAS c.toNat
   all_goals
    go_enter Tryz.func103, Tryz.ntmps103
    go_wp2_with (first | (go_at_call 104; refine (qAF _ _).mono ?_; rintro e w' ⟨rfl, rfl⟩; simp only [h1]) | (go_at_call 101; refine (qAO _ _).mono ?_; rintro e w' ⟨rfl, rfl⟩; simp only [h2]))
    go_ret
    exact ⟨qQ (by simp [qCE, h1, h2, h0]), rfl⟩
  ·go_enter Tryz.func103, Tryz.ntmps103
   go_wp2_with (go_at_call 104; refine (qAF _ _).mono ?_; rintro e w' ⟨rfl, rfl⟩; simp only [h1])
   go_ret
   exact ⟨qQ (by simp [qCE, h1, h0]), rfl⟩
theorem enters52 : qA2 103 := enters_of Tryz.func103 (by kernel_rfl) rfl
theorem qCk {s : ByteArray} (h : s.data.toList = []) : s = ⟨#[]⟩ := by
 apply ByteArray.ext
 exact Array.toList_inj.1 h
theorem qAZ {s : ByteArray} {l : List UInt8} (h : s.data.toList = l) : s.size = l.length := by rw [<- h]; exact Array.length_toList.symm
def qO (l : List UInt8) : Bool := match l with
 | [] => false
 | c :: r => decide (r.length < 10) && !pb qAS c && (c :: r).all (pb qCE)
theorem qCf (p : Int -> Bool) : ∀ l : List UInt8, decide (qb p l = l.length) = l.all (pb p)
 | [] => rfl
 | c :: r => by
   have ih := qCf p r
   simp only [qb, List.takeWhile_cons, List.all_cons] at ih ⊢
   cases hc : pb p c
   ·simp
   ·rw [<- ih]; simp only [if_true, List.length_cons, Bool.true_and, Nat.add_right_cancel_iff]; exact decide_eq_decide.2 Iff.rfl
theorem qC9 (s : ByteArray) (w : World) :
  Calls Tryz.prog 77 #[.string s] w fun e w' => e = .returned (.bool (qO s.data.toList)) /\ w' = w := by
 have hlen := qAZ (rfl : s.data.toList = _)
 cases hl : s.data.toList with
 | nil =>
   have hs : s = ⟨#[]⟩ := qCk hl
   subst hs
   go_enter Tryz.func77, Tryz.ntmps77
   go_wp2
   go_ret
   exact ⟨rfl, rfl⟩
 | cons c r =>
   rw [hl] at hlen
   simp only [List.length_cons] at hlen
   have h0 : 0 < s.size := by omega
   have h1 : ¬ (s.size : Int) < 1 := by omega
   by_cases h10 : (10 : Int) < s.size
   ·have HF : Hid (qO (c :: r) = false) := by
     have : ¬ r.length < 10 := by omega
     simp [Hid, qO, this]
    clear hlen
    go_enter Tryz.func77, Tryz.ntmps77
    go_wp2
    go_ret
    exact ⟨qQ HF.out.symm, rfl⟩
   ·have hat : s[0] = c := by
     have := qBB h0
     rw [List.drop_zero, hl] at this
     injection this with h1 _
     exact h1.symm
    have hidx := index9 s 0 0 rfl h0
    rw [hat] at hidx
    cases hd : qAS c.toNat
    ·have HF : Hid (qO (c :: r) = decide (qb qCE (c :: r) = (c :: r).length)) := by
      have h2 : r.length < 10 := by omega
      have h3 : pb qAS c = false := hd
      rw [qCf]
      simp [Hid, qO, h2, h3]
     have hsp : ∀ w, Calls Tryz.prog 102 #[.string s, .func (.func 103) #[] #[]] w fun e w' => e = .returned (.int .i64 (qb qCE (c :: r))) /\ w' = w := by
      intro w
      have := qDS s 103 qCE w (by omega) enters52 (fun c w => qDX c w)
      rw [hl] at this
      exact this
     have hsz : (s.size : Int) = ((c :: r).length : Nat) := by simp; omega
     rw [HF.out]
     clear HF hl hat
     go_enter Tryz.func77, Tryz.ntmps77
     go_wp2_with (first | (go_at_call 101; refine (qAO _ _).mono ?_; rintro e w' ⟨rfl, rfl⟩; simp only [hd]) | (go_at_call 102; refine (hsp _).mono ?_; rintro e w' ⟨rfl, rfl⟩))
     go_ret
     refine ⟨qQ ?_, rfl⟩
     show decide (((qb qCE (c :: r) : Nat) : Int) = (r.length : Int) + 1) = _
     exact decide_eq_decide.2 (by omega)
    ·have HF : Hid (qO (c :: r) = false) := by
      have h3 : pb qAS c = true := hd
      simp [Hid, qO, h3]
     clear hlen hl hat
     go_enter Tryz.func77, Tryz.ntmps77
     go_wp2_with (go_at_call 101; refine (qAO _ _).mono ?_; rintro e w' ⟨rfl, rfl⟩; simp only [hd])
     go_ret
     exact ⟨qQ HF.out.symm, rfl⟩
inductive Ex where
 | mk (kind n : Int) (name : List UInt8) (kids : List Ex)
structure Va where
 name : List UInt8
 n : Int
def sgn (n : Int) : Int := wrap32 n
def leafR : List Tok -> Except Int (Ex × List Tok)
 | [] => .error 9
 | t :: r =>
   if t.kind = 2 then .ok (.mk 1 (sgn t.n) [] [], r)
   else if t.kind ≠ 1 then .error 2
   else if qO t.text = true then .ok (.mk 2 0 t.text [], r)
   else .error 7
def qGi (name : List UInt8) : List (List UInt8 × Int) -> Option Int
 | [] => none
 | x :: r => if x.1 = name then some x.2 else qGi name r
def opR (kind x y : Int) : Int :=
 if kind = 5 then wrap32 (x * y)
 else if kind = 6 then wrap32 (x + y)
 else if kind = 7 then wrap32 (x - y)
 else if kind = 8 then wrap32 ((x % 4294967296) * 2 ^ ((y % 4294967296) % 32).toNat)
 else if kind = 9 then wrap32 ((x % 4294967296) / 2 ^ ((y % 4294967296) % 32).toNat)
 else if kind = 10 then bits .and .i32 x y
 else bits .or .i32 x y
def qBW (kind : Int) (a b : List UInt8) : Option (List UInt8) :=
 if a = [] /\ b = [] then some []
 else if kind = 7 /\ a = b then some []
 else if kind = 7 /\ b = [] then some a
 else if kind = 6 /\ a = [] then some b
 else if kind = 6 /\ b = [] then some a
 else none
def Ex.kind : Ex -> Int | .mk k _ _ _ => k
def Ex.n : Ex -> Int | .mk _ n _ _ => n
def Ex.name : Ex -> List UInt8 | .mk _ _ t _ => t
def exV (e : Ex) (kv : Value) : Value := .agg #[.int .i64 e.kind, .int .i64 e.n, .string ⟨e.name.toArray⟩, kv]
def qDx (w : World) (v : Value) (l : List (List UInt8 × Int)) : Prop :=
 ∃ ad cap, v = .slice ad l.length cap /\ l.length <= maxLen /\ (0 < l.length -> ∃ b o, ad = some ⟨b, o, none⟩ /\ b < w.heap.size /\ ∀ i (h : i < l.length),
  w.cell? ⟨b, o + i * 2, none⟩ = some (.string ⟨l[i].1.toArray⟩) /\ w.cell? ⟨b, o + i * 2 + 1, none⟩ = some (.int .i64 l[i].2))
theorem qDx.below {w w' : World} {B : Nat} {v : Value} {l : List (List UInt8 × Int)} (h : qDx w v l) (hb : Below B w w') (hB : w.heap.size <= B) : qDx w' v l := by
 obtain ⟨ad, cap, rfl, hm, hc⟩ := h
 refine ⟨ad, cap, rfl, hm, fun h0 => ?_⟩
 obtain ⟨b, o, rfl, hlt, hcell⟩ := hc h0
 refine ⟨b, o, rfl, Nat.lt_of_lt_of_le hlt hb.size, fun i hi => ?_⟩
 rw [hb.cell (by show b < B; omega), hb.cell (by show b < B; omega)]
 exact hcell i hi
theorem qDx.nil (w : World) : qDx w (.slice none 0 0) [] := ⟨none, 0, rfl, Nat.zero_le _, fun h => by simp at h⟩
def vaV (v : Va) : Value := .agg #[.string ⟨v.name.toArray⟩, .int .i64 v.n]
def evalV : Except Int Va -> Value
 | .ok v => .tuple #[vaV v, .int .i64 0]
 | .error x => .tuple #[.agg #[.string ⟨#[]⟩, .int .i64 0], .int .i64 x]
theorem qH2 (n : Int) : IntKind.i32.wrap n = wrap32 n := by
 simp [IntKind.wrap, IntKind.bits, IntKind.signed, wrap32]
 split <;> omega
end Go.Proofs.YtfmljailbebfgaaGreatDoor.Xp
