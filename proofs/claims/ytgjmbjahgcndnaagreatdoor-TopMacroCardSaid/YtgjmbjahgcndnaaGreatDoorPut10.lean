import Derived.Test.YtgjmbjahgcndnaaGreatDoorPut8
import Derived.Test.YtgjmbjahgcndnaaGreatDoorPut4
import Derived.Deep.AppendLies
import Derived.Shelf.Abstract
namespace Go.Proofs.YtgjmbjahgcndnaaGreatDoor
open Go.RowKit
end Go.Proofs.YtgjmbjahgcndnaaGreatDoor
namespace Go.Proofs.YtgjmbjahgcndnaaGreatDoor.Si
open Go.RowKit Isa
def toI (op imm at' : Int) : Int :=
 if qAc op = 4 \/ qAc op = 5 \/ qAc op = 7 then at' + 2 * imm + 4
 else if qAc op = 8 then at' - at' % 4 + 4 + 4 * imm else 0
end Go.Proofs.YtgjmbjahgcndnaaGreatDoor.Si
namespace Go.Proofs.YtgjmbjahgcndnaaGreatDoor.Lp
open Go.RowKit
end Go.Proofs.YtgjmbjahgcndnaaGreatDoor.Lp
namespace Go.Proofs.YtgjmbjahgcndnaaGreatDoor.Li
open Go.RowKit
theorem qDl (b : List UInt8) (p size n : Int) : (putL b p size n).length = b.length := by simp [putL]
def ObIn (w : World) (c s r : Value) (o : Ob) : Prop := qg w c o.code /\ qAw w s o.syms /\ qDG w r o.rels
theorem ObIn.below {w w' : World} {B : Nat} {c s r : Value} {o : Ob} (h : ObIn w c s r o) (hb : Below B w w') (hB : w.heap.size <= B) : ObIn w' c s r o := ⟨h.1.below hb hB, h.2.1.below hb hB, h.2.2.below hb hB⟩
def OObs (w : World) (v : Value) (l : List Ob) : Prop :=
 ∃ ad cap, v = .slice ad l.length cap /\ l.length <= maxLen /\ (0 < l.length -> ∃ b o, ad = some ⟨b, o, none⟩ /\ b < w.heap.size /\ ∀ i (h : i < l.length),
  ∃ c s r, w.cell? ⟨b, o + i * 3, none⟩ = some c /\ w.cell? ⟨b, o + i * 3 + 1, none⟩ = some s /\ w.cell? ⟨b, o + i * 3 + 2, none⟩ = some r /\ ObIn w c s r l[i])
theorem OObs.below {w w' : World} {B : Nat} {v : Value} {l : List Ob} (h : OObs w v l) (hb : Below B w w') (hB : w.heap.size <= B) : OObs w' v l := by
 obtain ⟨ad, cap, rfl, hm, hc⟩ := h
 refine ⟨ad, cap, rfl, hm, fun h0 => ?_⟩
 obtain ⟨b, o, rfl, hlt, hcell⟩ := hc h0
 refine ⟨b, o, rfl, Nat.lt_of_lt_of_le hlt hb.size, fun i hi => ?_⟩
 obtain ⟨c, s, r, h1, h2, h3, h4⟩ := hcell i hi
 refine ⟨c, s, r, ?_, ?_, ?_, h4.below hb hB⟩
 ·rw [hb.cell (by show b < B; omega)]; exact h1
 ·rw [hb.cell (by show b < B; omega)]; exact h2
 ·rw [hb.cell (by show b < B; omega)]; exact h3
theorem info3 : (Tryz.prog.info? 3).map (fun i => (i.zero, i.size, i.bytes)) = some (some (.int .i64 0), 1, 8) := by kernel_rfl
theorem endL_app (x y : List Ob) : ∀ b : Int, endL b (x ++ y) = endL (endL b x) y := by
 induction x with
 | nil => intro b; rfl
 | cons o r ih => intro b; simp [endL, ih]
theorem qGC (l : List Ob) (b : Int) (k : Nat) : endL b (l.take k) <= endL b l := by
 have h := endL_app (l.take k) (l.drop k) b
 rw [List.take_append_drop] at h
 rw [h]
 exact qG2 _ _
def noV (e a : Int) : Ending := .returned (.tuple #[.agg #[.int .i64 0, .slice none 0 0, .slice none 0 0], .agg #[.int .i64 e, .int .i64 a]])
theorem qB {w : World} {b i : Nat} {c : Array Value} {t : TypeId} {v : Value} (h : w.heap[b]? = some (.cells c t (0, 0))) (hv : c[i]? = some v) : w.cell? ⟨b, i, none⟩ = some v := by simp [World.cell?, h, hv]
theorem qD {w : World} {b i : Nat} {c : Array Value} {t : TypeId} (h : w.heap[b]? = some (.cells c t (0, 0))) : w.frozen? ⟨b, i, none⟩ = false := by simp [World.frozen?, h]
theorem qK (w : World) (c : Array Value) (t : TypeId) : (w.alloc (.cells c t)).heap[w.heap.size]? = some (.cells c t (0, 0)) := by unfold World.alloc; simp only [Array.getElem?_push_size]
structure LB (w0 w : World) : Prop where
 bel : Below w0.heap.size w0 w
 lt : w0.heap.size + 2 <= w.heap.size
 im : w.heap[w0.heap.size]? = some (.cells #[.int .i64 0, .slice none 0 0, .slice none 0 0] 34 (0, 0))
 fa : w.heap[w0.heap.size + 1]? = some (.cells #[.int .i64 0, .int .i64 0] 36 (0, 0))
theorem LB.new (w : World) : LB w ((w.alloc (.cells #[.int .i64 0, .slice none 0 0, .slice none 0 0] 34)).alloc (.cells #[.int .i64 0, .int .i64 0] 36)) := by
 refine ⟨((Below.refl _ _).alloc (Nat.le_refl _) _).alloc (by simp) _, by simp, ?_, ?_⟩
 ·rw [(qE _ _).block _ (by simp)]; exact qK w _ _
 ·have e : (w.alloc (.cells #[.int .i64 0, .slice none 0 0, .slice none 0 0] 34)).heap.size = w.heap.size + 1 := by simp
  rw [<- e]
  exact qK _ _ _
theorem LB.next {w0 w w' : World} (h : LB w0 w) (hb : Below (w0.heap.size + 2) w w') : LB w0 w' :=
 ⟨h.bel.trans (hb.mono (by omega)), Nat.le_trans h.lt hb.size, by rw [hb.block _ (by omega)]; exact h.im, by rw [hb.block _ (by omega)]; exact h.fa⟩
theorem LB.go {w0 w w' : World} (h : LB w0 w) (hb : Below w.heap.size w w') : LB w0 w' := h.next (hb.mono h.lt)
theorem LB.cells {w0 w : World} (h : LB w0 w) : w.cell? ⟨w0.heap.size, 0, none⟩ = some (.int .i64 0) /\ w.cell? ⟨w0.heap.size, 1, none⟩ = some (.slice none 0 0) /\ w.cell? ⟨w0.heap.size, 2, none⟩ = some (.slice none 0 0) /\
  w.cell? ⟨w0.heap.size + 1, 0, none⟩ = some (.int .i64 0) /\ w.cell? ⟨w0.heap.size + 1, 1, none⟩ = some (.int .i64 0) /\
  w.frozen? ⟨w0.heap.size, 0, none⟩ = false /\ w.frozen? ⟨w0.heap.size, 1, none⟩ = false /\ w.frozen? ⟨w0.heap.size, 2, none⟩ = false /\ w.frozen? ⟨w0.heap.size + 1, 0, none⟩ = false /\ w.frozen? ⟨w0.heap.size + 1, 1, none⟩ = false :=
 ⟨qB h.im rfl, qB h.im rfl, qB h.im rfl, qB h.fa rfl, qB h.fa rfl, qD h.im, qD h.im, qD h.im, qD h.fa, qD h.fa⟩
theorem LB.five {w0 w : World} (h : LB w0 w) (a b c d e : Value) : Below w0.heap.size w0 (((((w.setCell ⟨w0.heap.size, 0, none⟩ a).setCell ⟨w0.heap.size, 1, none⟩ b).setCell ⟨w0.heap.size, 2, none⟩ c).setCell ⟨w0.heap.size + 1, 0, none⟩ d).setCell ⟨w0.heap.size + 1, 1, none⟩ e) :=
 ((((h.bel.setCell (Nat.le_refl _) _).setCell (Nat.le_refl _) _).setCell (Nat.le_refl _) _).setCell (Nat.le_succ _) _).setCell (Nat.le_succ _) _
def LinkEnd (w0 : World) (base : Int) (r : Except (Int × Nat) (List UInt8 × List Sy)) (e : Ending) (w : World) : Prop :=
 Below w0.heap.size w0 w /\ match r with
 | .error x => e = noV x.1 x.2
 | .ok x => ∃ bv sv, e = .returned (.tuple #[.agg #[.int .i64 base, bv, sv], .agg #[.int .i64 0, .int .i64 0]]) /\ qg w bv x.1 /\ qAw w sv x.2
theorem qET {nm : List UInt8 -> Bool} {l : List Ob} {k : Nat} (hk : k < l.length) : qAF nm k (l.drop k) = if qAD nm l[k] = 0 then qAF nm (k + 1) (l.drop (k + 1)) else some (qAD nm l[k], k) := by
 rw [List.drop_eq_getElem_cons hk]; rfl
theorem qAG (c : Int) (w : World) :
  Calls Tryz.prog 99 #[.int .u8 c] w fun e w' => e = .returned (.bool (qAK c)) /\ w' = w := by
 by_cases h1 : 48 <= c
 all_goals by_cases h2 : c <= 57
 all_goals
  go_enter Tryz.func99, Tryz.ntmps99
  go_wp2
  go_ret
  exact ⟨qO (by simp [qAK]; omega), rfl⟩
theorem qw (c : Int) (w : World) :
  Calls Tryz.prog 102 #[.int .u8 c] w fun e w' => e = .returned (.bool (qy c)) /\ w' = w := by
 by_cases h1 : 97 <= c
 all_goals by_cases h2 : c <= 122
 all_goals by_cases h3 : 65 <= c
 all_goals by_cases h4 : c <= 90
 all_goals by_cases h5 : c = 95
 all_goals by_cases h6 : c = 46
 all_goals first
  | (exfalso; omega)
  | (have e5 : (c == 95) = decide (c = 95) := by rfl
     have e6 : (c == 46) = decide (c = 46) := by rfl
     simp only [h5, h6] at e5 e6
     go_enter Tryz.func102, Tryz.ntmps102
     go_wp2
     go_ret
     exact ⟨qO (by first | (simp [qy]; omega) | simp [qy]), rfl⟩)
def qAz (f : FuncId) : Prop := ∀ args w, (callFunc f args).run Tryz.prog w = .ok (.enter f args) w
def Asks (f : FuncId) (p : Int -> Bool) : Prop := ∀ (c : UInt8) (w : World), Calls Tryz.prog f #[.int .u8 (c.toNat : Int)] w fun e w' => e = .returned (.bool (p c.toNat)) /\ w' = w
def qW (p : Int -> Bool) (l : List UInt8) : Nat := (l.takeWhile (pb p)).length
theorem qCM {p : Int -> Bool} {s : ByteArray} {k : Nat} (hk : k < s.size) (hp : p s[k].toNat = true) (h : qW p s.data.toList = k + qW p (s.data.toList.drop k)) :
  qW p s.data.toList = (k + 1) + qW p (s.data.toList.drop (k + 1)) := by
 rw [h, qA9 hk]
 have hp' : pb p s[k] = true := hp
 simp only [qW, List.takeWhile_cons, hp', if_true, List.length_cons]
 omega
theorem qCv {p : Int -> Bool} {s : ByteArray} {k : Nat} (hk : k < s.size) (hp : p s[k].toNat = false) (h : qW p s.data.toList = k + qW p (s.data.toList.drop k)) :
  qW p s.data.toList = k := by
 rw [h, qA9 hk]
 have hp' : pb p s[k] = false := hp
 simp [qW, hp']
theorem qCE {p : Int -> Bool} {s : ByteArray} {k : Nat} (hk : s.size <= k) (h : qW p s.data.toList = k + qW p (s.data.toList.drop k)) : qW p s.data.toList = k := by
 rw [h, List.drop_eq_nil_of_le (by simpa using hk)]
 simp [qW]
theorem qC3 (s : ByteArray) (f : FuncId) (p : Int -> Bool) (w : World) (hs : s.size <= 9223372036854775000) (he : qAz f) (hp : Asks f p) :
  Calls Tryz.prog 100 #[.string s, .func (.func f) #[] #[]] w fun e w' => e = .returned (.int .i64 (qW p s.data.toList)) /\ w' = w := by
 unfold qAz at he
 go_enter Tryz.func100, Tryz.ntmps100
 go_wp2
 go_loop [5] (fun i => ∃ k : Nat, k <= s.size /\ i = .int .i64 k /\ Hid (qW p s.data.toList = k + qW p (s.data.toList.drop k))) (fun i => s.size - (intOf i).toNat)
 case atStart => exact ⟨0, Nat.zero_le _, rfl, by simp [Hid]⟩
 case round =>
  obtain ⟨k, hk, rfl, HS⟩ := hrel
  by_cases hlt : k < s.size
  ·have hk1 : (k : Int) < s.size := by omega
   have hidx := index9 s k k rfl hlt
   cases hb : p (s[k].toNat : Int)
   ·go_wp2_with fail
    refine (hp _ _).mono ?_
    rintro e w1 ⟨rfl, rfl⟩
    simp only [hb]
    go_wp2
    go_ret
    exact ⟨qR (by rw [qCv hlt hb HS.out]), rfl⟩
   ·go_wp2_with fail
    refine (hp _ _).mono ?_
    rintro e w1 ⟨rfl, rfl⟩
    simp only [hb]
    go_wp2
    exact ⟨⟨k + 1, by omega, by go_num, qCM hlt hb HS.out⟩, by simp [intOf]; omega⟩
  ·have hk1 : ¬ (k : Int) < s.size := by omega
   go_wp2
   go_ret
   exact ⟨qR (by rw [qCE (by omega) HS.out]), rfl⟩
theorem qDI (c : UInt8) (w : World) :
  Calls Tryz.prog 101 #[.int .u8 (c.toNat : Int)] w fun e w' => e = .returned (.bool (qBu c.toNat)) /\ w' = w := by
 by_cases h0 : (c.toNat : Int) = 46
 ·have e0 : ((c.toNat : Int) == 46) = true := by simp [h0]
  go_enter Tryz.func101, Tryz.ntmps101
  go_wp2
  go_ret
  exact ⟨qO (by simp [qBu, h0]), rfl⟩
 ·have e0 : ((c.toNat : Int) == 46) = false := by simp [h0]
  cases h1 : qy c.toNat
  ·cases h2 : qAK c.toNat
   all_goals
    go_enter Tryz.func101, Tryz.ntmps101
    go_wp2_with (first | (go_at_call 102; refine (qw _ _).mono ?_; rintro e w' ⟨rfl, rfl⟩; simp only [h1]) | (go_at_call 99; refine (qAG _ _).mono ?_; rintro e w' ⟨rfl, rfl⟩; simp only [h2]))
    go_ret
    exact ⟨qO (by simp [qBu, h1, h2, h0]), rfl⟩
  ·go_enter Tryz.func101, Tryz.ntmps101
   go_wp2_with (go_at_call 102; refine (qw _ _).mono ?_; rintro e w' ⟨rfl, rfl⟩; simp only [h1])
   go_ret
   exact ⟨qO (by simp [qBu, h1, h0]), rfl⟩
theorem enters52 : qAz 101 := enters_of Tryz.func101 (by kernel_rfl) rfl
theorem qAQ {s : ByteArray} {l : List UInt8} (h : s.data.toList = l) : s.size = l.length := by rw [<- h]; exact Array.length_toList.symm
theorem qCN (p : Int -> Bool) : ∀ l : List UInt8, decide (qW p l = l.length) = l.all (pb p)
 | [] => rfl
 | c :: r => by
   have ih := qCN p r
   simp only [qW, List.takeWhile_cons, List.all_cons] at ih ⊢
   cases hc : pb p c
   ·simp
   ·rw [<- ih]; simp only [if_true, List.length_cons, Bool.true_and, Nat.add_right_cancel_iff]; exact decide_eq_decide.2 Iff.rfl
theorem qCg (s : ByteArray) (w : World) :
  Calls Tryz.prog 75 #[.string s] w fun e w' => e = .returned (.bool (qL s.data.toList)) /\ w' = w := by
 have hlen := qAQ (rfl : s.data.toList = _)
 cases hl : s.data.toList with
 | nil =>
   have hs : s = ⟨#[]⟩ := qCc hl
   subst hs
   go_enter Tryz.func75, Tryz.ntmps75
   go_wp2
   go_ret
   exact ⟨rfl, rfl⟩
 | cons c r =>
   rw [hl] at hlen
   simp only [List.length_cons] at hlen
   have h0 : 0 < s.size := by omega
   have h1 : ¬ (s.size : Int) < 1 := by omega
   by_cases h10 : (10 : Int) < s.size
   ·have HF : Hid (qL (c :: r) = false) := by
     have : ¬ r.length < 10 := by omega
     simp [Hid, qL, this]
    clear hlen
    go_enter Tryz.func75, Tryz.ntmps75
    go_wp2
    go_ret
    exact ⟨qO HF.out.symm, rfl⟩
   ·have hat : s[0] = c := by
     have := qA9 h0
     rw [List.drop_zero, hl] at this
     injection this with h1 _
     exact h1.symm
    have hidx := index9 s 0 0 rfl h0
    rw [hat] at hidx
    cases hd : qAK c.toNat
    ·have HF : Hid (qL (c :: r) = decide (qW qBu (c :: r) = (c :: r).length)) := by
      have h2 : r.length < 10 := by omega
      have h3 : pb qAK c = false := hd
      rw [qCN]
      simp [Hid, qL, h2, h3]
     have hsp : ∀ w, Calls Tryz.prog 100 #[.string s, .func (.func 101) #[] #[]] w fun e w' => e = .returned (.int .i64 (qW qBu (c :: r))) /\ w' = w := by
      intro w
      have := qC3 s 101 qBu w (by omega) enters52 (fun c w => qDI c w)
      rw [hl] at this
      exact this
     have hsz : (s.size : Int) = ((c :: r).length : Nat) := by simp; omega
     rw [HF.out]
     clear HF hl hat
     go_enter Tryz.func75, Tryz.ntmps75
     go_wp2_with (first | (go_at_call 99; refine (qAG _ _).mono ?_; rintro e w' ⟨rfl, rfl⟩; simp only [hd]) | (go_at_call 100; refine (hsp _).mono ?_; rintro e w' ⟨rfl, rfl⟩))
     go_ret
     refine ⟨qO ?_, rfl⟩
     show decide (((qW qBu (c :: r) : Nat) : Int) = (r.length : Int) + 1) = _
     exact decide_eq_decide.2 (by omega)
    ·have HF : Hid (qL (c :: r) = false) := by
      have h3 : pb qAK c = true := hd
      simp [Hid, qL, h3]
     clear hlen hl hat
     go_enter Tryz.func75, Tryz.ntmps75
     go_wp2_with (go_at_call 99; refine (qAG _ _).mono ?_; rintro e w' ⟨rfl, rfl⟩; simp only [hd])
     go_ret
     exact ⟨qO HF.out.symm, rfl⟩
end Go.Proofs.YtgjmbjahgcndnaaGreatDoor.Li
