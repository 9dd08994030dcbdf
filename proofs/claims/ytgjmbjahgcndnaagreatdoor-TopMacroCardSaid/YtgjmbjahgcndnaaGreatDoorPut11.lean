import Derived.Test.YtgjmbjahgcndnaaGreatDoorPut9
import Derived.Laws.Rows
set_option maxHeartbeats 2000000
set_option maxRecDepth 100000
namespace Go.Proofs.YtgjmbjahgcndnaaGreatDoor.Xp
open Go.RowKit
def qCF (k : Int) : Int := [0, 0, 0, 1, 1, 2, 2, 2, 2, 2, 2, 2].getD k.toNat 0
def qB4 (k : Int) : List UInt8 := [[], [], [], [45], [126], [42], [43], [45], [60, 60], [62, 62], [38], [124]].getD k.toNat []
def kStr (k : Int) : Int := [0, 0, 0, 0, 0, 5, 4, 4, 3, 3, 2, 1].getD k.toNat 0
def qBd : Array Value := ((List.range 12).flatMap fun k => [.int .i64 (qCF k), .string ⟨(qB4 k).toArray⟩, .int .i64 (kStr k)]).toArray
structure qAT (w : World) : Prop where
 sz : 11 < w.heap.size
 blk : ∃ t fr, w.heap[11]? = some (.cells qBd t fr)
 k0 : ∀ s : Int, 0 <= s -> s <= 11 -> w.cell? ⟨11, s.toNat * 3, none⟩ = some (.int .i64 (qCF s))
 k1 : ∀ s : Int, 0 <= s -> s <= 11 -> w.cell? ⟨11, s.toNat * 3 + 1, none⟩ = some (.string ⟨(qB4 s).toArray⟩)
 k2 : ∀ s : Int, 0 <= s -> s <= 11 -> w.cell? ⟨11, s.toNat * 3 + 2, none⟩ = some (.int .i64 (kStr s))
theorem qAT.below {B : Nat} {w w' : World} (h : qAT w) (hb : Below B w w') (hB : 11 < B) : qAT w' where
 sz := Nat.lt_of_lt_of_le h.sz hb.size
 blk := by rw [hb.block 11 (by omega)]; exact h.blk
 k0 s a b := by rw [hb.cell (by exact hB)]; exact h.k0 s a b
 k1 s a b := by rw [hb.cell (by exact hB)]; exact h.k1 s a b
 k2 s a b := by rw [hb.cell (by exact hB)]; exact h.k2 s a b
theorem qKG (w : World) : ((List.range 12).map fun k : Nat => (Instr.index 377 (.agg qBd) (.int .i64 (k : Int))).run Tryz.prog w) = (List.range 12).map fun k : Nat => .ok (.agg #[.int .i64 (qCF k), .string ⟨(qB4 k).toArray⟩, .int .i64 (kStr k)]) w := by kernel_rfl
theorem kIndex (k : Nat) (hk : k < 12) (w : World) : (Instr.index 377 (.agg qBd) (.int .i64 (k : Int))).run Tryz.prog w = .ok (.agg #[.int .i64 (qCF k), .string ⟨(qB4 k).toArray⟩, .int .i64 (kStr k)]) w := by
 have h := congrArg (fun l => l[k]?) (qKG w)
 simpa [hk] using h
theorem kSize : (Tryz.prog.info? 377).map (·.size) = some qBd.size := by kernel_rfl
theorem qKf (a : List UInt8) (s : ByteArray) : (a == s.toList) = decide (a = s.data.toList) := by
 rw [ByteArray.toList_eq]
 exact Bool.eq_iff_iff.2 (by simp)
def qCm (t : Tok) (s : List UInt8) : Bool := decide (t.kind = 3 /\ t.text = s)
theorem qCd (t : Tok) (s : ByteArray) (w : World) :
  Calls Tryz.prog 251 #[.agg #[.int .i64 t.kind, .int .i64 t.n, .string ⟨t.text.toArray⟩], .string s] w fun e w' => e = .returned (.bool (qCm t s.data.toList)) /\ Below w.heap.size w w' := by
 obtain ⟨kd, n, tx⟩ := t
 by_cases h3 : kd = 3
 ·have HV : Hid (qCm ⟨kd, n, tx⟩ s.data.toList = (tx == s.toList)) := by
   unfold Hid qCm
   rw [qKf]
   simp [h3]
  subst h3
  go_enter Tryz.func251, Tryz.ntmps251
  go_wp2
  go_ret
  exact ⟨by rw [HV.out]; rfl, (Below.refl _ _).alloc (Nat.le_refl _) _⟩
 ·have e3 : (kd == 3) = false := by simp [h3]
  have HV : Hid (qCm ⟨kd, n, tx⟩ s.data.toList = false) := by simp [Hid, qCm, h3]
  go_enter Tryz.func251, Tryz.ntmps251
  go_wp2
  go_ret
  exact ⟨by rw [HV.out]; rfl, (Below.refl _ _).alloc (Nat.le_refl _) _⟩
def qf (kids : Int) (t : Tok) : Nat -> Nat -> Int
 | 0, _ => 0
 | f + 1, k => if qCF k = kids /\ qCm t (qB4 k) = true then (k : Int) else qf kids t f (k + 1)
theorem qKK {kids : Int} {t : Tok} {k : Nat} (hk : k < 12) (hf : qf kids t 12 0 = qf kids t (12 - k) k) (h : qCF k = kids /\ qCm t (qB4 k) = true) : qf kids t 12 0 = (k : Int) := by
 rw [hf]
 obtain ⟨j, hj⟩ : ∃ j, 12 - k = j + 1 := ⟨11 - k, by omega⟩
 rw [hj]
 unfold qf
 rw [if_pos h]
theorem qHq {kids : Int} {t : Tok} {k : Nat} (hk : k < 12) (hf : qf kids t 12 0 = qf kids t (12 - k) k) (h : ¬ (qCF k = kids /\ qCm t (qB4 k) = true)) : qf kids t 12 0 = qf kids t (12 - (k + 1)) (k + 1) := by
 rw [hf]
 obtain ⟨j, hj⟩ : ∃ j, 12 - k = j + 1 := ⟨11 - k, by omega⟩
 have hj' : 12 - (k + 1) = j := by omega
 rw [hj, hj']
 rw [qf, if_neg h]
def qGI (kids : Int) (t : Tok) : Int := qf kids t 12 0
def TBox (w : World) (R : Nat) (t : Tok) : Prop := w.cell? ⟨R, 0, none⟩ = some (.int .i64 t.kind) /\ w.cell? ⟨R, 1, none⟩ = some (.int .i64 t.n) /\ w.cell? ⟨R, 2, none⟩ = some (.string ⟨t.text.toArray⟩)
theorem TBox.below {w w' : World} {R B : Nat} {t : Tok} (h : TBox w R t) (hb : Below B w w') (hR : R < B) : TBox w' R t :=
 ⟨by rw [hb.cell (by exact hR)]; exact h.1, by rw [hb.cell (by exact hR)]; exact h.2.1, by rw [hb.cell (by exact hR)]; exact h.2.2⟩
theorem tbox_new (w : World) (t : Tok) (ty : TypeId) : TBox (w.alloc (.cells #[.int .i64 t.kind, .int .i64 t.n, .string ⟨t.text.toArray⟩] ty)) w.heap.size t := by
 have h := heap_alloc_new w (.cells #[.int .i64 t.kind, .int .i64 t.n, .string ⟨t.text.toArray⟩] ty)
 refine ⟨?_, ?_, ?_⟩ <;> simp only [World.cell?, h] <;> rfl
theorem balloc (w : World) (o : Obj) : Below w.heap.size w (w.alloc o) := (Below.refl _ _).alloc (Nat.le_refl _) _
theorem qCW (t : Tok) (kids : Int) (w : World) (hL : qAT w) :
  Calls Tryz.prog 249 #[.agg #[.int .i64 t.kind, .int .i64 t.n, .string ⟨t.text.toArray⟩], .int .i64 kids] w fun e w' => e = .returned (.int .i64 (qGI kids t)) /\ Below w.heap.size w w' := by
 obtain ⟨tt, fr, hblk0⟩ := hL.blk
 have hsz := hL.sz
 have hblk : ∀ O : Obj, (w.alloc O).heap[11]? = some (.cells qBd tt fr) := fun O => ((balloc w O).block 11 hsz).trans hblk0
 clear hblk0
 go_enter Tryz.func249, Tryz.ntmps249
 go_wp2_with (refine wpList_load_row rfl 377 _ rfl 11 rfl tt qBd fr _ (hblk _) Tryz.underlying377 rfl kSize ?_)
 clear hblk hL
 go_loopw [8] (fun i wr => ∃ k : Nat, k <= 12 /\ i = .int .i64 k /\ Hid (TBox wr w.heap.size t) /\ w.heap.size < wr.heap.size /\ Hid (Below w.heap.size w wr) /\ Hid (qf kids t 12 0 = qf kids t (12 - k) k)) (fun i _ => 12 - (intOf i).toNat)
 case atStart => exact ⟨0, Nat.zero_le _, rfl, tbox_new _ _ _, by simp, balloc _ _, rfl⟩
 case round =>
  obtain ⟨k, hk, rfl, HT, hz, HB, HF⟩ := hrel
  by_cases hlt : k < 12
  ·have hi := kIndex k hlt
   have hk' : (k : Int) < 12 := by omega
   obtain ⟨q0, q1, q2⟩ := HT.out
   have hN : ∀ O : Obj, Hid (TBox (wr.alloc O) w.heap.size t) /\ w.heap.size < (wr.alloc O).heap.size /\ Hid (Below w.heap.size w (wr.alloc O)) := fun O => ⟨HT.out.below (balloc wr O) hz, by simp; omega, HB.out.trans ((balloc wr O).mono (by omega))⟩
   have HN : Hid (∀ O : Obj, Hid (TBox (wr.alloc O) w.heap.size t) /\ w.heap.size < (wr.alloc O).heap.size /\ Hid (Below w.heap.size w (wr.alloc O))) := hN
   clear hN HT HB
   by_cases h1 : qCF k = kids
   ·have e1 : (qCF k == kids) = true := by simpa using h1
    have HCall : Hid (∀ W, Calls Tryz.prog 251 #[.agg #[.int .i64 t.kind, .int .i64 t.n, .string ⟨t.text.toArray⟩], .string ⟨(qB4 k).toArray⟩] W fun e w' => e = .returned (.bool (qCm t (qB4 k))) /\ Below W.heap.size W w') := fun W => qCd t ⟨(qB4 k).toArray⟩ W
    cases h3 : qCm t (qB4 k)
    ·have HN2 : Hid (qf kids t 12 0 = qf kids t (12 - (k + 1)) (k + 1)) := qHq hlt HF.out (by simp [h3])
     clear HF
     go_wp2_with (go_at_call 251; refine (HCall.out _).mono ?_; rintro e w2 ⟨rfl, hb2⟩; rw [h3]; have HB2 : Hid (Below _ _ w2) := hb2; clear hb2)
     obtain ⟨n1, n2, n3⟩ := HN.out (.cells #[.int .i64 kids, .string ⟨(qB4 k).toArray⟩, .int .i64 (kStr k)] 376)
     have hz2 : w.heap.size < wr.heap.size + 1 := by omega
     exact ⟨⟨k + 1, by omega, by go_num, n1.out.below HB2.out (by simpa using hz2), Nat.lt_of_lt_of_le n2 HB2.out.size, n3.out.trans (HB2.out.mono (by simpa using Nat.le_of_lt hz2)), HN2⟩, by simp [intOf]; omega⟩
    ·have HN2 : Hid (qGI kids t = (k : Int)) := qKK hlt HF.out ⟨h1, h3⟩
     clear HF
     go_wp2_with (go_at_call 251; refine (HCall.out _).mono ?_; rintro e w2 ⟨rfl, hb2⟩; rw [h3]; have HB2 : Hid (Below _ _ w2) := hb2; clear hb2)
     go_ret
     rw [HN2.out]
     obtain ⟨n1, n2, n3⟩ := HN.out (.cells #[.int .i64 kids, .string ⟨(qB4 k).toArray⟩, .int .i64 (kStr k)] 376)
     have hz2 : w.heap.size < wr.heap.size + 1 := by omega
     exact ⟨rfl, n3.out.trans (HB2.out.mono (by simpa using Nat.le_of_lt hz2))⟩
   ·have e1 : (qCF k == kids) = false := by simpa using h1
    have HN2 : Hid (qf kids t 12 0 = qf kids t (12 - (k + 1)) (k + 1)) := qHq hlt HF.out (by simp [h1])
    clear HF
    go_wp2
    obtain ⟨n1, n2, n3⟩ := HN.out (.cells #[.int .i64 (qCF k), .string ⟨(qB4 k).toArray⟩, .int .i64 (kStr k)] 376)
    exact ⟨⟨k + 1, by omega, by go_num, n1, n2, n3, HN2⟩, by simp [intOf]; omega⟩
  ·have hk' : ¬ (k : Int) < 12 := by omega
   have HX : Hid (qGI kids t = 0) := by
    unfold Hid qGI
    rw [HF.out, show 12 - k = 0 by omega]; rfl
   clear HF
   go_wp2
   go_ret
   rw [HX.out]
   exact ⟨rfl, HB.out⟩
theorem qKX (n : Int) : wrap64 (wrap32 n) = wrap32 n := by unfold wrap64 wrap32; omega
theorem qBC (n : Int) (w : World) :
  Calls Tryz.prog 58 #[.int .i64 n] w fun e w' => e = .returned (.int .i64 (sgn n)) /\ w = w' := by
 go_enter Tryz.func58, Tryz.ntmps58
 go_wp2
 go_ret
 refine ⟨qR ?_, rfl⟩
 unfold sgn
 exact qKX n
def qDu (t : Tok) : Except Int Ex :=
 if t.kind = 2 then .ok (.mk 1 (sgn t.n) [] [])
 else if t.kind ≠ 1 then .error 2
 else if qL t.text = true then .ok (.mk 2 0 t.text [])
 else .error 7
def exZ : Value := .agg #[.int .i64 0, .int .i64 0, .string ⟨#[]⟩, .slice none 0 0]
def qDy : Except Int Ex -> Value
 | .ok e => .tuple #[exV e (.slice none 0 0), .int .i64 0]
 | .error x => .tuple #[exZ, .int .i64 x]
theorem qHl (t : Tok) (w : World) :
  Calls Tryz.prog 253 #[.agg #[.int .i64 t.kind, .int .i64 t.n, .string ⟨t.text.toArray⟩]] w fun e w' => e = .returned (qDy (qDu t)) /\ Below w.heap.size w w' := by
 by_cases h2 : t.kind = 2
 ·have e2 : (t.kind == 2) = true := by simpa using h2
  have HV : Hid (qDy (qDu t) = .tuple #[.agg #[.int .i64 1, .int .i64 (sgn t.n), .string ⟨#[]⟩, .slice none 0 0], .int .i64 0]) := by simp [Hid, qDy, qDu, h2, exV, Ex.kind, Ex.n, Ex.name]
  go_enter Tryz.func253, Tryz.ntmps253
  go_wp2_with (go_at_call 58; refine (qBC _ _).mono ?_; rintro e w' ⟨rfl, rfl⟩)
  exact bodyPost_ret (v := .tuple #[.agg #[.int .i64 1, .int .i64 (sgn t.n), .string ⟨#[]⟩, .slice none 0 0], .int .i64 0]) (by simp [results, Tryz.results253, go_sem]) rfl ⟨by rw [HV.out], ((Below.refl _ _).alloc (Nat.le_refl _) _).alloc (by simp) _⟩
 ·have e2 : (t.kind == 2) = false := by simpa using h2
  by_cases h1 : t.kind = 1
  ·have e1 : (t.kind != 1) = false := by simp [h1]
   cases hn : qL t.text
   ·have HV : Hid (qDy (qDu t) = .tuple #[.agg #[.int .i64 0, .int .i64 0, .string ⟨#[]⟩, .slice none 0 0], .int .i64 7]) := by simp [Hid, qDy, qDu, h1, hn, exZ]
    go_enter Tryz.func253, Tryz.ntmps253
    go_wp2_with (go_at_call 75; refine (qCg _ _).mono ?_; rintro e w' ⟨rfl, rfl⟩; simp only [hn])
    exact bodyPost_ret (v := .tuple #[.agg #[.int .i64 0, .int .i64 0, .string ⟨#[]⟩, .slice none 0 0], .int .i64 7]) (by simp [results, Tryz.results253, go_sem]) rfl ⟨by rw [HV.out], ((Below.refl _ _).alloc (Nat.le_refl _) _).alloc (by simp) _⟩
   ·have HV : Hid (qDy (qDu t) = .tuple #[.agg #[.int .i64 2, .int .i64 0, .string ⟨t.text.toArray⟩, .slice none 0 0], .int .i64 0]) := by simp [Hid, qDy, qDu, h1, hn, exV, Ex.kind, Ex.n, Ex.name]
    go_enter Tryz.func253, Tryz.ntmps253
    go_wp2_with (go_at_call 75; refine (qCg _ _).mono ?_; rintro e w' ⟨rfl, rfl⟩; simp only [hn])
    exact bodyPost_ret (v := .tuple #[.agg #[.int .i64 2, .int .i64 0, .string ⟨t.text.toArray⟩, .slice none 0 0], .int .i64 0]) (by simp [results, Tryz.results253, go_sem]) rfl ⟨by rw [HV.out], ((Below.refl _ _).alloc (Nat.le_refl _) _).alloc (by simp) _⟩
  ·have e1 : (t.kind != 1) = true := by simp [h1]
   have HV : Hid (qDy (qDu t) = .tuple #[.agg #[.int .i64 0, .int .i64 0, .string ⟨#[]⟩, .slice none 0 0], .int .i64 2]) := by simp [Hid, qDy, qDu, h1, h2, exZ]
   go_enter Tryz.func253, Tryz.ntmps253
   go_wp2
   exact bodyPost_ret (v := .tuple #[.agg #[.int .i64 0, .int .i64 0, .string ⟨#[]⟩, .slice none 0 0], .int .i64 2]) (by simp [results, Tryz.results253, go_sem]) rfl ⟨by rw [HV.out], ((Below.refl _ _).alloc (Nat.le_refl _) _).alloc (by simp) _⟩
end Go.Proofs.YtgjmbjahgcndnaaGreatDoor.Xp
