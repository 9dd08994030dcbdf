import Derived.Test.YtgjmbjahgcndnaaGreatDoorPut1
import Derived.Laws.Rows
set_option maxHeartbeats 4000000
set_option maxRecDepth 100000
namespace Go.Proofs.YtgjmbjahgcndnaaGreatDoor.Isa
open Go.RowKit
def opV (k : Int) : Value := .agg #[.string (qBB k), .int .i64 (qF k), .int .i64 (qAm k)]
theorem qIq (w : World) : ((List.range 28).map fun k : Nat => (Instr.index 156 (.agg qA6) (.int .i64 (k : Int))).run Tryz.prog w) = (List.range 28).map fun k : Nat => .ok (opV (k : Int)) w := by kernel_rfl
theorem qLU (k : Nat) (hk : k < 28) (w : World) : (Instr.index 156 (.agg qA6) (.int .i64 (k : Int))).run Tryz.prog w = .ok (.agg #[.string (qBB k), .int .i64 (qF k), .int .i64 (qAm k)]) w := by
 have h := congrArg (fun l => l[k]?) (qIq w)
 simpa [hk, opV] using h
theorem opSize : (Tryz.prog.info? 156).map (·.size) = some qA6.size := by kernel_rfl
def qp (name : ByteArray) (shape : Int) : Nat -> Nat -> Int
 | 0, _ => 0
 | fuel + 1, k => if qAl k = true /\ (qBB k).toList = name.toList /\ qF k = shape then (k : Int) else qp name shape fuel (k + 1)
theorem find_yes {name : ByteArray} {shape : Int} {k : Nat} (hk : k < 28) (hf : qp name shape 28 0 = qp name shape (28 - k) k) (h1 : qAl k = true) (h2 : (qBB k).toList = name.toList) (h3 : (qF k == shape) = true) : qp name shape 28 0 = (k : Int) := by
 rw [hf]
 obtain ⟨j, hj⟩ : ∃ j, 28 - k = j + 1 := ⟨27 - k, by omega⟩
 rw [hj]
 unfold qp
 rw [if_pos ⟨h1, h2, by simpa using h3⟩]
theorem qGc {name : ByteArray} {shape : Int} {k : Nat} (hk : k < 28) (hf : qp name shape 28 0 = qp name shape (28 - k) k) (h : ¬ (qAl k = true /\ (qBB k).toList = name.toList /\ qF k = shape)) : qp name shape 28 0 = qp name shape (28 - (k + 1)) (k + 1) := by
 rw [hf]
 obtain ⟨j, hj⟩ : ∃ j, 28 - k = j + 1 := ⟨27 - k, by omega⟩
 have hj' : 28 - (k + 1) = j := by omega
 rw [hj, hj']
 rw [qp, if_neg h]
theorem qEy (name : ByteArray) (shape : Int) (w : World) (hL : Laid w) :
  Calls Tryz.prog 203 #[.string name, .int .i64 shape] w fun e w' => e = .returned (.int .i64 (qp name shape 28 0)) /\ Below w.heap.size w w' := by
 obtain ⟨t, fr, hblk⟩ := hL.blk
 go_enter Tryz.func203, Tryz.ntmps203
 go_wp2_with (refine wpList_load_row rfl 156 _ rfl 1 rfl t qA6 fr _ hblk Tryz.underlying156 rfl opSize ?_)
 clear hblk
 go_loopw [8] (fun i wr => ∃ k : Nat, k <= 28 /\ i = .int .i64 k /\ Below w.heap.size w wr /\ Hid (qp name shape 28 0 = qp name shape (28 - k) k)) (fun i _ => 28 - (intOf i).toNat)
 case atStart => exact ⟨0, Nat.zero_le _, rfl, Below.refl _ _, rfl⟩
 case round =>
  obtain ⟨k, hk, rfl, hB, HF⟩ := hrel
  by_cases hlt : k < 28
  ·have hi := qLU k hlt
   have hk' : (k : Int) < 28 := by omega
   cases hkn : qAl k
   ·go_wp2_with (go_at_call 79; refine (qA8 _ _).mono ?_; rintro e w' ⟨rfl, rfl⟩)
    exact ⟨⟨k + 1, by omega, by go_num, hB.alloc hB.size _, qGc hlt HF.out (by simp [hkn])⟩, by simp [intOf]; omega⟩
   ·go_wp2_with (go_at_call 79; refine (qA8 _ _).mono ?_; rintro e w' ⟨rfl, rfl⟩)
    ·have h2 : (qBB k).toList = name.toList := by assumption
     have h3 : (qF k == shape) = true := by assumption
     have hfin := find_yes hlt HF.out hkn h2 h3
     go_ret
     exact ⟨qR hfin.symm, hB.alloc hB.size _⟩
    ·have h3 : (qF k == shape) = false := by assumption
     exact ⟨⟨k + 1, by omega, by go_num, hB.alloc hB.size _, qGc hlt HF.out (by simp at h3; simp [h3])⟩, by simp [intOf]; omega⟩
    ·have h2 : ¬ (qBB k).toList = name.toList := by assumption
     exact ⟨⟨k + 1, by omega, by go_num, hB.alloc hB.size _, qGc hlt HF.out (by simp [h2])⟩, by simp [intOf]; omega⟩
  ·have hk' : ¬ (k : Int) < 28 := by omega
   have hfin : qp name shape 28 0 = 0 := by
    rw [HF.out, show 28 - k = 0 by omega]; rfl
   have HX : Hid (qp name shape 28 0 = 0) := hfin
   clear hfin
   go_wp2
   go_ret
   exact ⟨qR HX.out.symm, hB⟩
def qHw (k : Int) : Int := qJc (layN (qF k)) (layM (qF k)) (qu (qF k)) (qU (qF k))
def qBb (x k : Int) : Bool := qAl k && (bits .andNot .i64 x (qHw k) == qAm k)
def qe (x : Int) : Nat -> Nat -> Int
 | 0, _ => 0
 | fuel + 1, k => if qBb x k = true then (k : Int) else qe x fuel (k + 1)
theorem dec_yes {x : Int} {k : Nat} (hk : k < 28) (hf : qe x 28 0 = qe x (28 - k) k) (h : qBb x k = true) : qe x 28 0 = (k : Int) := by
 rw [hf]
 obtain ⟨j, hj⟩ : ∃ j, 28 - k = j + 1 := ⟨27 - k, by omega⟩
 rw [hj, qe, if_pos h]
theorem dec_no {x : Int} {k : Nat} (hk : k < 28) (hf : qe x 28 0 = qe x (28 - k) k) (h : qBb x k = false) : qe x 28 0 = qe x (28 - (k + 1)) (k + 1) := by
 rw [hf]
 obtain ⟨j, hj⟩ : ∃ j, 28 - k = j + 1 := ⟨27 - k, by omega⟩
 have hj' : 28 - (k + 1) = j := by omega
 rw [hj, hj', qe, if_neg (by simp [h])]
def decV (x : Int) : Value :=
 if qP x 0 65535 = true /\ qe x 28 0 ≠ 0 then rdV (layN (qF (qe x 28 0))) (layM (qF (qe x 28 0))) (qu (qF (qe x 28 0))) (qU (qF (qe x 28 0))) (qe x 28 0) x
 else .agg #[.int .i64 0, .int .i64 0, .int .i64 0, .int .i64 0]
def decE (x : Int) : Int := if qP x 0 65535 = true then (if qe x 28 0 = 0 then 12 else 0) else 3
theorem keepD {w0 w1 w2 : World} {B C B0 B1 : Nat} {a b c d e : Value} (hb : Below B1 w1 w2) (hB : B < B1) (hC : C < B1) (h0 : B0 <= B1)
  (h : B < w1.heap.size /\ C < w1.heap.size /\ w1.cell? ⟨B, 2, none⟩ = some a /\ w1.cell? ⟨C, 0, none⟩ = some b /\ w1.cell? ⟨C, 1, none⟩ = some c /\ w1.cell? ⟨C, 2, none⟩ = some d /\ w1.cell? ⟨C, 3, none⟩ = some e /\ Below B0 w0 w1) :
  B < w2.heap.size /\ C < w2.heap.size /\ w2.cell? ⟨B, 2, none⟩ = some a /\ w2.cell? ⟨C, 0, none⟩ = some b /\ w2.cell? ⟨C, 1, none⟩ = some c /\ w2.cell? ⟨C, 2, none⟩ = some d /\ w2.cell? ⟨C, 3, none⟩ = some e /\ Below B0 w0 w2 := by
 obtain ⟨h0, h1, h2, h3, h4, h5, h6, h7⟩ := h
 exact ⟨Nat.lt_of_lt_of_le h0 hb.size, Nat.lt_of_lt_of_le h1 hb.size, by rw [hb.cell hB]; exact h2, by rw [hb.cell hC]; exact h3, by rw [hb.cell hC]; exact h4, by rw [hb.cell hC]; exact h5, by rw [hb.cell hC]; exact h6, h7.trans (hb.mono (by omega))⟩
theorem startD {w0 w1 : World} {B B0 : Nat} {a b c d e : Value} (hB : Below B0 w0 w1) (h0 : B0 <= w1.heap.size) (hz : B < w1.heap.size) (h1 : w1.cell? ⟨B, 2, none⟩ = some a) :
  B < (w1.alloc (.cells #[b, c, d, e] 158)).drew.heap.size /\ w1.heap.size < (w1.alloc (.cells #[b, c, d, e] 158)).drew.heap.size /\ (w1.alloc (.cells #[b, c, d, e] 158)).drew.cell? ⟨B, 2, none⟩ = some a /\ (w1.alloc (.cells #[b, c, d, e] 158)).drew.cell? ⟨w1.heap.size, 0, none⟩ = some b /\ (w1.alloc (.cells #[b, c, d, e] 158)).drew.cell? ⟨w1.heap.size, 1, none⟩ = some c /\ (w1.alloc (.cells #[b, c, d, e] 158)).drew.cell? ⟨w1.heap.size, 2, none⟩ = some d /\ (w1.alloc (.cells #[b, c, d, e] 158)).drew.cell? ⟨w1.heap.size, 3, none⟩ = some e /\ Below B0 w0 (w1.alloc (.cells #[b, c, d, e] 158)).drew := by
 refine ⟨?_, ?_, ?_, ?_, ?_, ?_, ?_, (hB.alloc h0 _).drew⟩
 ·simp; omega
 ·simp
 ·simp; rw [World.cell?_alloc_lt _ _ _ (by simpa using hz)]; exact h1
 ·simp
 ·simp
 ·simp
 ·simp
theorem qMA (a : Int) (w : World) (h : qAl a = true) : Calls Tryz.prog 79 #[.int .i64 a] w fun e w' => e = .returned (.bool true) /\ w' = w := by
 have := qA8 a w
 rwa [h] at this
theorem known_no (a : Int) (w : World) (h : qAl a = false) : Calls Tryz.prog 79 #[.int .i64 a] w fun e w' => e = .returned (.bool false) /\ w' = w := by
 have := qA8 a w
 rwa [h] at this
theorem bcellB {B : Nat} {W w1 : World} (hb : Below B W w1) : (∀ b o, b < B -> w1.cell? ⟨b, o, none⟩ = W.cell? ⟨b, o, none⟩) /\ (∀ b o, b < B -> w1.frozen? ⟨b, o, none⟩ = W.frozen? ⟨b, o, none⟩) :=
 ⟨fun b o h => hb.cell (p := ⟨b, o, none⟩) h, fun b o h => hb.frozen (p := ⟨b, o, none⟩) h⟩
theorem decV_hit {x : Int} {k : Nat} (hk : k < 28) (hw : qP x 0 65535 = true) (hf : qe x 28 0 = qe x (28 - k) k) (h : qBb x k = true) :
  decV x = rdV (layN (qF k)) (layM (qF k)) (qu (qF k)) (qU (qF k)) k x /\ decE x = 0 := by
 have e := dec_yes hk hf h
 have h0 : (k : Int) ≠ 0 := by
  intro h0
  rw [h0] at h
  simp [qBb, qAl, qP] at h
 unfold decV decE
 rw [e, if_pos ⟨hw, h0⟩, if_pos hw, if_neg h0]
 exact ⟨rfl, rfl⟩
theorem qLY {x : Int} (hw : qP x 0 65535 = true) (hf : qe x 28 0 = 0) :
  decV x = .agg #[.int .i64 0, .int .i64 0, .int .i64 0, .int .i64 0] /\ decE x = 12 := by
 unfold decV decE
 rw [hf, if_neg (by simp), if_pos hw, if_pos rfl]
 exact ⟨rfl, rfl⟩
theorem qI2 (x : Int) (w : World) (hw : qP x 0 65535 = false) :
  Calls Tryz.prog 48 #[.int .i64 x] w fun e w' => e = .returned (.tuple #[.agg #[.int .i64 0, .int .i64 0, .int .i64 0, .int .i64 0], .int .i64 3]) /\ Below w.heap.size w w' := by
 go_enter Tryz.func48, Tryz.ntmps48
 go_wp2_with (go_at_call 77; refine (qAC _ _ _ _).mono ?_; rintro e w' ⟨rfl, rfl⟩)
 exact bodyPost_ret (v := .tuple #[.agg #[.int .i64 0, .int .i64 0, .int .i64 0, .int .i64 0], .int .i64 3]) (by simp [results, Tryz.results48, go_sem]) rfl ⟨rfl, (Below.refl _ _).alloc (Nat.le_refl _) _⟩
theorem qME (x : Int) (w : World) (hL : Laid w) (hw : qP x 0 65535 = true) :
  Calls Tryz.prog 48 #[.int .i64 x] w fun e w' => e = .returned (.tuple #[decV x, .int .i64 (decE x)]) /\ Below w.heap.size w w' := by
 have hs := hL.szL
 have hL0 := hL.below ((Below.refl w.heap.size w).alloc (Nat.le_refl _) (.cells #[.int .i64 0, .int .i64 0, .int .i64 0, .int .i64 0] 71)) hs
 obtain ⟨t, fr, hblk⟩ := hL0.blk
 go_enter Tryz.func48, Tryz.ntmps48
 go_wp2_with (first | (go_at_call 77; refine (qAC _ _ _ _).mono ?_; rintro e w' ⟨rfl, rfl⟩) | (refine wpList_load_row rfl 156 _ rfl 1 rfl t qA6 fr _ hblk Tryz.underlying156 rfl opSize ?_))
 clear hblk
 go_loopw [12] (fun i wr => ∃ k : Nat, k <= 28 /\ i = .int .i64 k /\ Below (w.heap.size + 1) (w.alloc (.cells #[.int .i64 0, .int .i64 0, .int .i64 0, .int .i64 0] 71)) wr /\ Hid (qe x 28 0 = qe x (28 - k) k)) (fun i _ => 28 - (intOf i).toNat)
 case atStart => exact ⟨0, Nat.zero_le _, rfl, Below.refl _ _, rfl⟩
 case round =>
  obtain ⟨k, hk, rfl, hB, HF⟩ := hrel
  by_cases hlt : k < 28
  ·have hi := qLU k hlt
   have hk' : (k : Int) < 28 := by omega
   have hsz : w.heap.size + 1 <= wr.heap.size := by have := hB.size; simpa using this
   have H1 := (hL0.below hB (by omega)).below ((Below.refl wr.heap.size wr).alloc (Nat.le_refl _) (.cells #[.string (qBB k), .int .i64 (qF k), .int .i64 (qAm k)] 155)) (by omega)
   obtain ⟨l1, l2, l3, l4⟩ := qHQ (qF k)
   go_wp2_with fail
   refine (qA1 _ _ H1).mono ?_
   rintro e w1 ⟨rfl, hb1⟩
   unfold layV
   have hz0 : wr.heap.size < w1.heap.size := by have := hb1.size; simp at this; omega
   have k2 : w1.cell? ⟨wr.heap.size, 2, none⟩ = some (.int .i64 (qAm k)) := by rw [hb1.cell (by simp)]; simp
   have hB1 := (hB.alloc hsz (.cells #[.string (qBB k), .int .i64 (qF k), .int .i64 (qAm k)] 155)).trans (hb1.mono (by simp; omega))
   clear hb1 H1 hi
   go_wp2_with fail
   cases hkn : qAl k
   ·have HN : Hid (qBb x k = false) := by simp [Hid, qBb, hkn]
    have HC : Hid (qAl k = false) := hkn
    clear hkn
    go_quiet ((go_at_call 79; exact Calls.quiet_of_same (known_no _ _ HC.out)))
    go_wp2
    exact ⟨⟨k + 1, by omega, by go_num, below_draws (hB1.alloc (by omega) _) _, dec_no hlt HF.out HN.out⟩, by simp [intOf]; omega⟩
   ·have HC : Hid (qAl k = true) := hkn
    clear hkn
    go_region_held3 (fun w' => wr.heap.size < w'.heap.size /\ w1.heap.size < w'.heap.size /\ w'.cell? ⟨wr.heap.size, 2, none⟩ = some (.int .i64 (qAm k)) /\ w'.cell? ⟨w1.heap.size, 0, none⟩ = some (.int .i64 (layN (qF k))) /\ w'.cell? ⟨w1.heap.size, 1, none⟩ = some (.int .i64 (layM (qF k))) /\ w'.cell? ⟨w1.heap.size, 2, none⟩ = some (.int .i64 (qu (qF k))) /\ w'.cell? ⟨w1.heap.size, 3, none⟩ = some (.int .i64 (qU (qF k))) /\ Below (w.heap.size + 1) (w.alloc (.cells #[.int .i64 0, .int .i64 0, .int .i64 0, .int .i64 0] 71)) w')
     (first | assumption | exact keepD hb2 (by simp; omega) (by simp) (by simp; omega) (by assumption) | exact startD hB1 (by omega) hz0 k2)
     (first | (go_at_call 79; refine (qMA _ _ HC.out).mono ?_; rintro e w' ⟨rfl, rfl⟩) | (go_at_call 80; refine (qCD _ _ _ _ _ l1 l2 l3 l4).mono ?_; rintro e w' ⟨rfl, hb2⟩))
    rename_i hH
    obtain ⟨g0, g1, g2, g3, g4, g5, g6, hB2⟩ := hH
    clear hb2 hB1 hB
    cases hh : (bits .andNot .i64 x (qJc (layN (qF k)) (layM (qF k)) (qu (qF k)) (qU (qF k))) == qAm k)
    ·have HN : Hid (qBb x k = false) := by simp only [Hid, qBb, qHw, hh, Bool.and_false]
     go_wp2
     exact ⟨⟨k + 1, by omega, by go_num, hB2, dec_no hlt HF.out HN.out⟩, by simp [intOf]; omega⟩
    ·have HV : Hid (decV x = rdV (layN (qF k)) (layM (qF k)) (qu (qF k)) (qU (qF k)) k x /\ decE x = 0) := decV_hit hlt hw HF.out (by simp only [qBb, qHw, hh, HC.out, Bool.and_true])
     go_wp2_with fail
     refine (qDh _ _ _ _ _ _ _ l1 l2 l3 l4).mono ?_
     rintro e w3 ⟨rfl, hb3⟩
     have hB3 := hB2.trans (hb3.mono (by omega))
     obtain ⟨hc, hf⟩ := bcellB hB3
     have HB : Hid (Below w.heap.size w w3) := ((Below.refl w.heap.size w).alloc (Nat.le_refl _) _).trans (hB3.mono (by omega))
     clear hb3 hB2 hB3
     unfold rdV
     go_wp2
     refine bodyPost_ret (v := .tuple #[rdV (layN (qF k)) (layM (qF k)) (qu (qF k)) (qU (qF k)) k x, .int .i64 0]) (by simp [results, Tryz.results48, go_sem, rdV, hc]) rfl ⟨by rw [HV.out.1, HV.out.2], ?_⟩
     exact (((HB.out.setCell (by simp) _).setCell (by simp) _).setCell (by simp) _).setCell (by simp) _
  ·have hk' : ¬ (k : Int) < 28 := by omega
   have HV : Hid (decV x = .agg #[.int .i64 0, .int .i64 0, .int .i64 0, .int .i64 0] /\ decE x = 12) := qLY hw (by rw [HF.out, show 28 - k = 0 by omega]; rfl)
   obtain ⟨hc, hf⟩ := bcellB hB
   have HB : Hid (Below w.heap.size w wr) := ((Below.refl w.heap.size w).alloc (Nat.le_refl _) _).trans (hB.mono (by omega))
   clear hB
   go_wp2
   refine bodyPost_ret (v := .tuple #[.agg #[.int .i64 0, .int .i64 0, .int .i64 0, .int .i64 0], .int .i64 12]) (by simp [results, Tryz.results48, go_sem, hc]) rfl ⟨by rw [HV.out.1, HV.out.2], ?_⟩
   exact (((HB.out.setCell (by simp) _).setCell (by simp) _).setCell (by simp) _).setCell (by simp) _
theorem qJE (x : Int) (w : World) (hL : Laid w) :
  Calls Tryz.prog 48 #[.int .i64 x] w fun e w' => e = .returned (.tuple #[decV x, .int .i64 (decE x)]) /\ Below w.heap.size w w' := by
 cases hw : qP x 0 65535
 ·have e1 : decV x = .agg #[.int .i64 0, .int .i64 0, .int .i64 0, .int .i64 0] := by simp [decV, hw]
  have e2 : decE x = 3 := by simp [decE, hw]
  rw [e1, e2]
  exact qI2 x w hw
 ·exact qME x w hL hw
def qCL (bs : Nat -> Int) (len : Nat) (p : Int) : Int := if 0 <= p /\ p < (len : Int) then bs p.toNat else 0
def qCk (bs : Nat -> Int) (len : Nat) (at' : Int) : Nat -> Int
 | 0 => 0
 | k + 1 => qCk bs len at' k * 256 + qCL bs len (at' + k)
def qHb (bs : Nat -> Int) : Prop := ∀ i, 0 <= bs i /\ bs i <= 255
theorem qLg {bs : Nat -> Int} (h : qHb bs) (len : Nat) (p : Int) : 0 <= qCL bs len p /\ qCL bs len p <= 255 := by
 unfold qCL
 split
 ·exact h _
 ·omega
theorem getTo_bd {bs : Nat -> Int} (h : qHb bs) (len : Nat) (a : Int) (k : Nat) : 0 <= qCk bs len a k /\ qCk bs len a k < (256 : Int) ^ k := by
 induction k with
 | zero => simp [qCk]
 | succ k ih =>
   have := qLg h len (a + k)
   rw [qCk, Int.pow_succ]
   omega
theorem or_byte (n b : Int) (h0 : 0 <= n) (h1 : n < 281474976710656) (h2 : 0 <= b) (h3 : b <= 255) : bits .or .i64 (n * 256) b = n * 256 + b := by
 obtain ⟨m, rfl⟩ := Int.eq_ofNat_of_zero_le h0
 obtain ⟨c, rfl⟩ := Int.eq_ofNat_of_zero_le h2
 have hm : m < 281474976710656 := by omega
 have hc : c < 256 := by omega
 have e : (m * 256) ||| c = m * 256 + c := by
  have := Nat.shiftLeft_add_eq_or_of_lt (i := 8) (b := c) (by simpa using hc) m
  rw [Nat.shiftLeft_eq] at this
  simpa using this.symm
 unfold bits
 have ha : BitVec.ofInt IntKind.i64.bits ((m : Int) * 256) = BitVec.ofNat 64 (m * 256) := by
  have : ((m : Int) * 256) = ((m * 256 : Nat) : Int) := by omega
  rw [this]; rfl
 have hb : BitVec.ofInt IntKind.i64.bits (c : Int) = BitVec.ofNat 64 c := rfl
 simp only [ha, hb]
 have ht : (BitVec.ofNat 64 (m * 256) ||| BitVec.ofNat 64 c).toNat = m * 256 + c := by
  rw [BitVec.toNat_or, BitVec.toNat_ofNat, BitVec.toNat_ofNat, Nat.mod_eq_of_lt (by omega), Nat.mod_eq_of_lt (by omega), e]
 show IntKind.i64.wrap ((BitVec.ofNat 64 (m * 256) ||| BitVec.ofNat 64 c).toNat : Int) = _
 rw [ht, IntKind.wrap_i64]
 omega
theorem get_any (ad : Option Addr) (len cap : Nat) (bs : Nat -> Int) (a size : Int) (w : World) (hbs : qHb bs) (hlen : len <= maxLen)
  (hrow : 0 < len -> ∃ b off, ad = some ⟨b, off, none⟩ /\ ∀ i, i < len -> w.cell? ⟨b, off + i, none⟩ = some (.int .u8 (bs i)))
  (hs0 : 0 <= size) (hs1 : size <= 6) (ha0 : -1000000000 <= a) (ha1 : a <= 9223372036854775000) :
  Calls Tryz.prog 49 #[.slice ad len cap, .int .i64 a, .int .i64 size] w fun e w' => e = .returned (.int .i64 (qCk bs len a size.toNat)) /\ w' = w := by
 unfold maxLen at hlen
 go_enter Tryz.func49, Tryz.ntmps49
 go_wp2
 go_loop [7, 8] (fun n i => ∃ k : Nat, k <= size.toNat /\ i = .int .i64 k /\ n = .int .i64 (qCk bs len a k)) (fun _ i => size.toNat - (intOf i).toNat)
 case atStart => exact ⟨0, Nat.zero_le _, rfl, rfl⟩
 case round =>
  obtain ⟨k, hk, rfl, rfl⟩ := hrel
  by_cases hlt : k < size.toNat
  ·have hk1 : (k : Int) < size := by omega
   have hg := getTo_bd hbs len a k
   have hg1 : qCk bs len a k < 281474976710656 := by
    have hk6 : k = 0 \/ k = 1 \/ k = 2 \/ k = 3 \/ k = 4 \/ k = 5 := by omega
    have h2 := hg.2
    rcases hk6 with h | h | h | h | h | h <;> (rw [h] at h2 ⊢; simp at h2; omega)
   have hg0 := hg.1
   have HS : Hid (qCk bs len a (k + 1) = qCk bs len a k * 256 + qCL bs len (a + k)) := rfl
   clear hg
   generalize qCk bs len a k = g at *
   by_cases hp : 0 <= a + k /\ a + k < (len : Int)
   ·obtain ⟨hp0, hp1⟩ := hp
    have HB : Hid (qCL bs len (a + k) = bs (a + k).toNat) := by simp [Hid, qCL, hp0, hp1]
    obtain ⟨b, off, rfl, hcell⟩ := hrow (by omega)
    have hc := hcell (a + k).toNat (by omega)
    have hb := hbs (a + k).toNat
    have hor := or_byte g (bs (a + k).toNat) hg0 hg1 hb.1 hb.2
    obtain ⟨hb0, hb1⟩ := hb
    clear hcell
    go_wp2
    exact ⟨⟨k + 1, by omega, by go_num, by rw [HS.out, HB.out]⟩, by simp [intOf]; omega⟩
   ·have HB : Hid (qCL bs len (a + k) = 0) := by simp [Hid, qCL]; omega
    by_cases hp0 : 0 <= a + k
    ·have hp1 : ¬ a + k < (len : Int) := by omega
     go_wp2
     exact ⟨⟨k + 1, by omega, by go_num, by rw [HS.out, HB.out, Int.add_zero]⟩, by simp [intOf]; omega⟩
    ·go_wp2
     exact ⟨⟨k + 1, by omega, by go_num, by rw [HS.out, HB.out, Int.add_zero]⟩, by simp [intOf]; omega⟩
  ·have hk1 : ¬ (k : Int) < size := by omega
   have hke : k = size.toNat := by omega
   subst hke
   go_wp2
   go_ret
   exact ⟨rfl, rfl⟩
theorem qBS (a : Nat) : BitVec.ofInt IntKind.i64.bits (a : Int) = BitVec.ofNat 64 a := rfl
theorem qBs (a : Nat) (h : a < 9223372036854775808) : IntKind.i64.wrap (a : Int) = a := by
 rw [IntKind.wrap_i64]; omega
theorem qJ6 (a b : Nat) (ha : a < 9223372036854775808) (hb : b < 9223372036854775808) : bits .and .i64 (a : Int) (b : Int) = ((a &&& b : Nat) : Int) := by
 show IntKind.i64.wrap ((BitVec.ofInt IntKind.i64.bits (a : Int) &&& BitVec.ofInt IntKind.i64.bits (b : Int)).toNat : Int) = _
 have : (BitVec.ofInt IntKind.i64.bits (a : Int) &&& BitVec.ofInt IntKind.i64.bits (b : Int)).toNat = a &&& b := by
  rw [qBS, qBS]
  show (BitVec.ofNat 64 a &&& BitVec.ofNat 64 b).toNat = _
  rw [BitVec.toNat_and, BitVec.toNat_ofNat, BitVec.toNat_ofNat, Nat.mod_eq_of_lt (by omega), Nat.mod_eq_of_lt (by omega)]
 rw [this]
 exact qBs _ (Nat.lt_of_le_of_lt Nat.and_le_left ha)
theorem qLf (a b : Nat) (ha : a < 4611686018427387904) (hb : b < 4611686018427387904) : bits .or .i64 (a : Int) (b : Int) = ((a ||| b : Nat) : Int) := by
 show IntKind.i64.wrap ((BitVec.ofInt IntKind.i64.bits (a : Int) ||| BitVec.ofInt IntKind.i64.bits (b : Int)).toNat : Int) = _
 have : (BitVec.ofInt IntKind.i64.bits (a : Int) ||| BitVec.ofInt IntKind.i64.bits (b : Int)).toNat = a ||| b := by
  rw [qBS, qBS]
  show (BitVec.ofNat 64 a ||| BitVec.ofNat 64 b).toNat = _
  rw [BitVec.toNat_or, BitVec.toNat_ofNat, BitVec.toNat_ofNat, Nat.mod_eq_of_lt (by omega), Nat.mod_eq_of_lt (by omega)]
 rw [this]
 exact qBs _ (Nat.lt_of_lt_of_le (Nat.or_lt_two_pow (n := 62) ha hb) (by decide))
theorem qIX (a b : Nat) (ha : a < 9223372036854775808) (hb : b < 9223372036854775808) : bits .andNot .i64 (a : Int) (b : Int) = ((a &&& (18446744073709551615 - b) : Nat) : Int) := by
 show IntKind.i64.wrap ((BitVec.ofInt IntKind.i64.bits (a : Int) &&& ~~~ BitVec.ofInt IntKind.i64.bits (b : Int)).toNat : Int) = _
 have : (BitVec.ofInt IntKind.i64.bits (a : Int) &&& ~~~ BitVec.ofInt IntKind.i64.bits (b : Int)).toNat = a &&& (18446744073709551615 - b) := by
  rw [qBS, qBS]
  show (BitVec.ofNat 64 a &&& ~~~ BitVec.ofNat 64 b).toNat = _
  rw [BitVec.toNat_and, BitVec.toNat_not, BitVec.toNat_ofNat, BitVec.toNat_ofNat, Nat.mod_eq_of_lt (by omega), Nat.mod_eq_of_lt (by omega)]
 rw [this]
 exact qBs _ (Nat.lt_of_le_of_lt Nat.and_le_left ha)
def decN (x : Nat) : Nat := bif Nat.beq (Nat.land x 18446744073709551615) 9 then 1 else bif Nat.beq (Nat.land x 18446744073709551615) 11 then 2 else bif Nat.beq (Nat.land x 18446744073709547520) 57344 then 3 else bif Nat.beq (Nat.land x 18446744073709547520) 28672 then 4 else bif Nat.beq (Nat.land x 18446744073709547535) 24579 then 5 else bif Nat.beq (Nat.land x 18446744073709547535) 12300 then 6 else bif Nat.beq (Nat.land x 18446744073709547535) 12296 then 7 else bif Nat.beq (Nat.land x 18446744073709547535) 8201 then 8 else bif Nat.beq (Nat.land x 18446744073709547535) 8203 then 9 else bif Nat.beq (Nat.land x 18446744073709547535) 8202 then 10 else bif Nat.beq (Nat.land x 18446744073709547535) 8200 then 11 else bif Nat.beq (Nat.land x 18446744073709547535) 12288 then 12 else bif Nat.beq (Nat.land x 18446744073709547535) 12295 then 13 else bif Nat.beq (Nat.land x 18446744073709547775) 16384 then 14 else bif Nat.beq (Nat.land x 18446744073709547775) 16385 then 15 else bif Nat.beq (Nat.land x 18446744073709547775) 16400 then 16 else bif Nat.beq (Nat.land x 18446744073709551360) 35072 then 17 else bif Nat.beq (Nat.land x 18446744073709551360) 35584 then 18 else bif Nat.beq (Nat.land x 18446744073709547520) 40960 then 19 else bif Nat.beq (Nat.land x 18446744073709547520) 45056 then 20 else bif Nat.beq (Nat.land x 18446744073709547775) 16427 then 21 else bif Nat.beq (Nat.land x 18446744073709547775) 16395 then 22 else bif Nat.beq (Nat.land x 18446744073709547520) 36864 then 23 else bif Nat.beq (Nat.land x 18446744073709547520) 53248 then 24 else bif Nat.beq (Nat.land x 18446744073709547535) 8194 then 25 else bif Nat.beq (Nat.land x 18446744073709547535) 24578 then 26 else bif Nat.beq (Nat.land x 18446744073709551360) 49920 then 27 else 0
def allB (f : Nat -> Bool) : Nat -> Nat -> Bool
 | 0, b => f b
 | d + 1, b => allB f d b && allB f d (b + 2 ^ d)
theorem qC5 (f : Nat -> Bool) : ∀ d b, allB f d b = true -> ∀ x, b <= x -> x < b + 2 ^ d -> f x = true := by
 intro d
 induction d with
 | zero => intro b h x h1 h2; simp at h2; have : x = b := by omega
           subst this; exact h
 | succ d ih =>
   intro b h x h1 h2
   simp only [allB, Bool.and_eq_true] at h
   rw [Nat.pow_succ] at h2
   by_cases hx : x < b + 2 ^ d
   ·exact ih b h.1 x h1 hx
   ·exact ih _ h.2 x (by omega) (by omega)
def qB2 (k : Nat) : Nat := [0, 0, 0, 4, 4, 4, 4, 4, 4, 4, 4, 4, 4, 4, 4, 4, 4, 0, 0, 0, 0, 4, 4, 4, 4, 4, 4, 0].getD k 0
def qBv (k : Nat) : Nat := [0, 0, 0, 0, 0, 4, 4, 4, 4, 4, 4, 4, 4, 4, 0, 0, 0, 0, 0, 0, 0, 0, 0, 0, 0, 4, 4, 0].getD k 0
def qz (k : Nat) : Nat := [0, 0, 0, 8, 8, 0, 0, 0, 0, 0, 0, 0, 0, 0, 0, 0, 0, 8, 8, 12, 12, 0, 0, 8, 8, 0, 0, 8].getD k 0
def encN (k n m i : Nat) : Nat := Nat.lor (Nat.lor (Nat.lor (qAm k).toNat (n * 256)) (m * 16)) i
def chk1 (k : Nat) : Bool :=
 allB (fun n => allB (fun m => allB (fun i => Nat.beq (decN (encN k n m i)) k && Nat.beq (Nat.land (encN k n m i / 256) (2 ^ qB2 k - 1)) n && Nat.beq (Nat.land (encN k n m i / 16) (2 ^ qBv k - 1)) m && Nat.beq (Nat.land (encN k n m i) (2 ^ qz k - 1)) i && Nat.ble (encN k n m i) 65535) (qz k) 0) (qBv k) 0) (qB2 k) 0
def chk2 (x : Nat) : Bool :=
 Nat.beq (decN x) 0 || (Nat.beq (encN (decN x) (Nat.land (x / 256) (2 ^ qB2 (decN x) - 1)) (Nat.land (x / 16) (2 ^ qBv (decN x) - 1)) (Nat.land x (2 ^ qz (decN x) - 1))) x && Nat.ble (decN x) 27)
theorem chk1_all : ((List.range 28).all fun k => Nat.beq k 0 || chk1 k) = true := by decide +kernel
theorem chk2_all : allB chk2 16 0 = true := by decide +kernel
theorem qr (x k m b : Nat) (hx : x < 65536) (hk : qAl k = true) (hm : qHw k = m) (hb : qAm k = b) (hm' : m < 65536) :
  qBb x k = Nat.beq (Nat.land x (18446744073709551615 - m)) b := by
 unfold qBb
 rw [hk, hm, hb, qIX x m (by omega) (by omega), Bool.true_and, Bool.eq_iff_iff]
 show (((x &&& (18446744073709551615 - m) : Nat) : Int) == (b : Int)) = true ↔ Nat.beq (x &&& (18446744073709551615 - m)) b = true
 rw [beq_iff_eq, Nat.beq_eq]
 omega
theorem qb (x f k : Nat) (t : Nat) (c : Bool) (hc : qBb x k = c) (h : qe x f (k + 1) = (t : Int)) : qe x (f + 1) k = ((bif c then k else t : Nat) : Int) := by
 rw [qe, hc, h]
 cases c <;> simp
theorem qDq (x : Nat) (hx : x < 65536) : qe x 28 0 = (decN x : Int) := by
 have e28 : qe x 0 28 = ((0 : Nat) : Int) := rfl
 have e27 := qb x 0 27 _ _ (qr x 27 255 49920 hx (by decide +kernel) (by decide +kernel) (by decide +kernel) (by decide)) e28
 have e26 := qb x 1 26 _ _ (qr x 26 4080 24578 hx (by decide +kernel) (by decide +kernel) (by decide +kernel) (by decide)) e27
 have e25 := qb x 2 25 _ _ (qr x 25 4080 8194 hx (by decide +kernel) (by decide +kernel) (by decide +kernel) (by decide)) e26
 have e24 := qb x 3 24 _ _ (qr x 24 4095 53248 hx (by decide +kernel) (by decide +kernel) (by decide +kernel) (by decide)) e25
 have e23 := qb x 4 23 _ _ (qr x 23 4095 36864 hx (by decide +kernel) (by decide +kernel) (by decide +kernel) (by decide)) e24
 have e22 := qb x 5 22 _ _ (qr x 22 3840 16395 hx (by decide +kernel) (by decide +kernel) (by decide +kernel) (by decide)) e23
 have e21 := qb x 6 21 _ _ (qr x 21 3840 16427 hx (by decide +kernel) (by decide +kernel) (by decide +kernel) (by decide)) e22
 have e20 := qb x 7 20 _ _ (qr x 20 4095 45056 hx (by decide +kernel) (by decide +kernel) (by decide +kernel) (by decide)) e21
 have e19 := qb x 8 19 _ _ (qr x 19 4095 40960 hx (by decide +kernel) (by decide +kernel) (by decide +kernel) (by decide)) e20
 have e18 := qb x 9 18 _ _ (qr x 18 255 35584 hx (by decide +kernel) (by decide +kernel) (by decide +kernel) (by decide)) e19
 have e17 := qb x 10 17 _ _ (qr x 17 255 35072 hx (by decide +kernel) (by decide +kernel) (by decide +kernel) (by decide)) e18
 have e16 := qb x 11 16 _ _ (qr x 16 3840 16400 hx (by decide +kernel) (by decide +kernel) (by decide +kernel) (by decide)) e17
 have e15 := qb x 12 15 _ _ (qr x 15 3840 16385 hx (by decide +kernel) (by decide +kernel) (by decide +kernel) (by decide)) e16
 have e14 := qb x 13 14 _ _ (qr x 14 3840 16384 hx (by decide +kernel) (by decide +kernel) (by decide +kernel) (by decide)) e15
 have e13 := qb x 14 13 _ _ (qr x 13 4080 12295 hx (by decide +kernel) (by decide +kernel) (by decide +kernel) (by decide)) e14
 have e12 := qb x 15 12 _ _ (qr x 12 4080 12288 hx (by decide +kernel) (by decide +kernel) (by decide +kernel) (by decide)) e13
 have e11 := qb x 16 11 _ _ (qr x 11 4080 8200 hx (by decide +kernel) (by decide +kernel) (by decide +kernel) (by decide)) e12
 have e10 := qb x 17 10 _ _ (qr x 10 4080 8202 hx (by decide +kernel) (by decide +kernel) (by decide +kernel) (by decide)) e11
 have e9 := qb x 18 9 _ _ (qr x 9 4080 8203 hx (by decide +kernel) (by decide +kernel) (by decide +kernel) (by decide)) e10
 have e8 := qb x 19 8 _ _ (qr x 8 4080 8201 hx (by decide +kernel) (by decide +kernel) (by decide +kernel) (by decide)) e9
 have e7 := qb x 20 7 _ _ (qr x 7 4080 12296 hx (by decide +kernel) (by decide +kernel) (by decide +kernel) (by decide)) e8
 have e6 := qb x 21 6 _ _ (qr x 6 4080 12300 hx (by decide +kernel) (by decide +kernel) (by decide +kernel) (by decide)) e7
 have e5 := qb x 22 5 _ _ (qr x 5 4080 24579 hx (by decide +kernel) (by decide +kernel) (by decide +kernel) (by decide)) e6
 have e4 := qb x 23 4 _ _ (qr x 4 4095 28672 hx (by decide +kernel) (by decide +kernel) (by decide +kernel) (by decide)) e5
 have e3 := qb x 24 3 _ _ (qr x 3 4095 57344 hx (by decide +kernel) (by decide +kernel) (by decide +kernel) (by decide)) e4
 have e2 := qb x 25 2 _ _ (qr x 2 0 11 hx (by decide +kernel) (by decide +kernel) (by decide +kernel) (by decide)) e3
 have e1 := qb x 26 1 _ _ (qr x 1 0 9 hx (by decide +kernel) (by decide +kernel) (by decide +kernel) (by decide)) e2
 have e0 : qe x 28 0 = qe x 27 1 := by
  rw [qe, if_neg (by rw [qBb, show qAl ((0 : Nat) : Int) = false by decide +kernel]; simp)]
 rw [e0, e1]
 rfl
theorem qDB (k : Nat) (h : k < 28) : layN (qF k) = ((2 ^ qB2 k - 1 : Nat) : Int) /\ layM (qF k) = ((2 ^ qBv k - 1 : Nat) : Int) /\ qU (qF k) - qu (qF k) = ((2 ^ qz k - 1 : Nat) : Int)
  /\ (qB2 k = 0 \/ qB2 k = 4) /\ (qBv k = 0 \/ qBv k = 4) /\ (qz k = 0 \/ qz k = 8 \/ qz k = 12) /\ qu (qF k) <= 0 /\ 0 <= qU (qF k) /\ 0 <= qAm k /\ qAm k < 65536 := by
 have : ∀ j : Fin 28, layN (qF j.val) = ((2 ^ qB2 j.val - 1 : Nat) : Int) /\ layM (qF j.val) = ((2 ^ qBv j.val - 1 : Nat) : Int) /\ qU (qF j.val) - qu (qF j.val) = ((2 ^ qz j.val - 1 : Nat) : Int)
  /\ (qB2 j.val = 0 \/ qB2 j.val = 4) /\ (qBv j.val = 0 \/ qBv j.val = 4) /\ (qz j.val = 0 \/ qz j.val = 8 \/ qz j.val = 12) /\ qu (qF j.val) <= 0 /\ 0 <= qU (qF j.val) /\ 0 <= qAm j.val /\ qAm j.val < 65536 := by decide +kernel
 exact this ⟨k, h⟩
theorem qGp (z : Int) : (BitVec.ofInt 64 z).toNat = (z % 18446744073709551616).toNat := by
 rw [BitVec.toNat_ofInt]
 rfl
theorem qE5 (z : Int) (d : Nat) (hd : d = 0 \/ d = 8 \/ d = 12) : bits .and .i64 z ((2 ^ d - 1 : Nat) : Int) = z % ((2 ^ d : Nat) : Int) := by
 show IntKind.i64.wrap ((BitVec.ofInt IntKind.i64.bits z &&& BitVec.ofInt IntKind.i64.bits ((2 ^ d - 1 : Nat) : Int)).toNat : Int) = _
 have : (BitVec.ofInt IntKind.i64.bits z &&& BitVec.ofInt IntKind.i64.bits ((2 ^ d - 1 : Nat) : Int)).toNat = (z % 18446744073709551616).toNat % 2 ^ d := by
  rw [qBS]
  show (BitVec.ofInt 64 z &&& BitVec.ofNat 64 (2 ^ d - 1)).toNat = _
  rw [BitVec.toNat_and, qGp, BitVec.toNat_ofNat, Nat.mod_eq_of_lt (a := 2 ^ d - 1) (by rcases hd with rfl | rfl | rfl <;> decide), Nat.and_two_pow_sub_one_eq_mod]
 rw [this, IntKind.wrap_i64]
 rcases hd with rfl | rfl | rfl
 ·simp
 ·simp; omega
 ·simp; omega
theorem qHc (k n m : Nat) (imm : Int) (hk : k < 28) (hn : n < 16) (hm : m < 16) : encI k n m imm = (encN k n m (imm % ((2 ^ qz k : Nat) : Int)).toNat : Int) := by
 obtain ⟨e1, e2, e3, w1, w2, w3, l0, h0, b0, b1⟩ := qDB k hk
 unfold encI encN
 have hz : 0 <= imm % ((2 ^ qz k : Nat) : Int) /\ imm % ((2 ^ qz k : Nat) : Int) < 4096 := by
  rcases w3 with h | h | h <;> rw [h] <;> simp <;> omega
 rw [e3, qE5 imm _ w3]
 obtain ⟨i, hi⟩ := Int.eq_ofNat_of_zero_le hz.1
 rw [hi, Int.toNat_natCast]
 obtain ⟨b, hb⟩ := Int.eq_ofNat_of_zero_le b0
 rw [hb, Int.toNat_natCast]
 have a1 : IntKind.i64.wrap ((n : Int) * 256) = ((n * 256 : Nat) : Int) := by rw [IntKind.wrap_i64]; omega
 have a2 : IntKind.i64.wrap ((m : Int) * 16) = ((m * 16 : Nat) : Int) := by rw [IntKind.wrap_i64]; omega
 have c1 : b ||| n * 256 < 2 ^ 16 := Nat.or_lt_two_pow (by omega) (by omega)
 have c2 : b ||| n * 256 ||| m * 16 < 2 ^ 16 := Nat.or_lt_two_pow c1 (by omega)
 rw [a1, a2, qLf b (n * 256) (by omega) (by omega), qLf _ (m * 16) (by omega) (by omega), qLf _ i (by omega) (by omega)]
 rfl
theorem qJh (k x : Nat) (hk : k < 28) (hx : x < 65536) : rdV (layN (qF k)) (layM (qF k)) (qu (qF k)) (qU (qF k)) k x =
  .agg #[.int .i64 k, .int .i64 ((Nat.land (x / 256) (2 ^ qB2 k - 1) : Nat) : Int), .int .i64 ((Nat.land (x / 16) (2 ^ qBv k - 1) : Nat) : Int), .int .i64 (if qU (qF k) < ((x % 2 ^ qz k : Nat) : Int) then ((x % 2 ^ qz k : Nat) : Int) - ((2 ^ qz k : Nat) : Int) else ((x % 2 ^ qz k : Nat) : Int))] := by
 obtain ⟨e1, e2, e3, w1, w2, w3, l0, h0, b0, b1⟩ := qDB k hk
 have hl := qHQ (qF k)
 unfold rdV qIU
 have p1 : 2 ^ qB2 k - 1 < 16 := by rcases w1 with h | h <;> rw [h] <;> decide
 have p2 : 2 ^ qBv k - 1 < 16 := by rcases w2 with h | h <;> rw [h] <;> decide
 have p3 : 0 < 2 ^ qz k := Nat.two_pow_pos _
 have p4 : 2 ^ qz k <= 4096 := by rcases w3 with h | h | h <;> rw [h] <;> decide
 have e4 : (x : Int) % ((2 ^ qz k : Nat) : Int) = ((x % 2 ^ qz k : Nat) : Int) := by omega
 have q1 : ((x : Int) / 256) = ((x / 256 : Nat) : Int) := by omega
 have q2 : ((x : Int) / 16) = ((x / 16 : Nat) : Int) := by omega
 rw [e1, e2, e3, qE5 _ _ w3, e4, q1, q2, qJ6 _ _ (by omega) (by omega), qJ6 _ _ (by omega) (by omega)]
 have q3 : x % 2 ^ qz k < 2 ^ qz k := Nat.mod_lt _ p3
 have q4 : wrap64 (((x % 2 ^ qz k : Nat) : Int) - (((2 ^ qz k - 1 : Nat) : Int) + 1)) = ((x % 2 ^ qz k : Nat) : Int) - ((2 ^ qz k : Nat) : Int) := by
  unfold wrap64
  omega
 rw [q4]
 rfl
theorem qEc {x : Nat} (hx : x < 65536) : qP x 0 65535 = true := by simp [qP]; omega
theorem turn1 {op n m imm : Int} (h : qV op n m imm = 0) : decV (encI op n m imm) = .agg #[.int .i64 op, .int .i64 n, .int .i64 m, .int .i64 imm] /\ decE (encI op n m imm) = 0 := by
 obtain ⟨h1, h2, h3, h4, h5, h6, h7, h8⟩ := qB3 h
 obtain ⟨k, rfl⟩ := Int.eq_ofNat_of_zero_le (show 0 <= op by omega)
 obtain ⟨a, rfl⟩ := Int.eq_ofNat_of_zero_le h3
 obtain ⟨b, rfl⟩ := Int.eq_ofNat_of_zero_le h5
 have hk : k < 28 := by omega
 have hk0 : k ≠ 0 := by omega
 obtain ⟨e1, e2, e3, w1, w2, w3, l0, l1, b0, b1⟩ := qDB k hk
 have pN := Nat.two_pow_pos (qB2 k)
 have pM := Nat.two_pow_pos (qBv k)
 have pI := Nat.two_pow_pos (qz k)
 have qN : 2 ^ qB2 k <= 16 := by rcases w1 with h | h <;> rw [h] <;> decide
 have qM : 2 ^ qBv k <= 16 := by rcases w2 with h | h <;> rw [h] <;> decide
 have ha : a < 2 ^ qB2 k := by omega
 have hb : b < 2 ^ qBv k := by omega
 rw [qHc k a b imm hk (by omega) (by omega)]
 have hi : (imm % ((2 ^ qz k : Nat) : Int)).toNat < 2 ^ qz k := by
  have := Int.emod_lt_of_pos imm (show (0 : Int) < ((2 ^ qz k : Nat) : Int) by omega)
  have := Int.emod_nonneg imm (show ((2 ^ qz k : Nat) : Int) ≠ 0 by omega)
  omega
 have hback : (if qU (qF k) < (((imm % ((2 ^ qz k : Nat) : Int)).toNat : Nat) : Int) then (((imm % ((2 ^ qz k : Nat) : Int)).toNat : Nat) : Int) - ((2 ^ qz k : Nat) : Int) else (((imm % ((2 ^ qz k : Nat) : Int)).toNat : Nat) : Int)) = imm := by
  by_cases hneg : imm < 0
  ·have e : imm % ((2 ^ qz k : Nat) : Int) = imm + ((2 ^ qz k : Nat) : Int) := by
    rw [<- Int.add_emod_right]
    exact Int.emod_eq_of_lt (by omega) (by omega)
   rw [e, if_pos (by omega)]
   omega
  ·have e : imm % ((2 ^ qz k : Nat) : Int) = imm := Int.emod_eq_of_lt (by omega) (by omega)
   rw [e, if_neg (by omega)]
   omega
 generalize (imm % ((2 ^ qz k : Nat) : Int)).toNat = i at hi hback ⊢
 have hc := chk1_all
 rw [List.all_eq_true] at hc
 have hc1 := hc k (by simpa using hk)
 have hc2 : chk1 k = true := by
  simp only [Bool.or_eq_true] at hc1
  rcases hc1 with h | h
  ·exact absurd (Nat.beq_eq ▸ h : k = 0) hk0
  ·exact h
 have t1 := qC5 _ _ _ hc2 a (Nat.zero_le _) (by omega)
 have t2 := qC5 _ _ _ t1 b (Nat.zero_le _) (by omega)
 have t3 := qC5 _ _ _ t2 i (Nat.zero_le _) (by omega)
 simp only [Bool.and_eq_true, Nat.beq_eq, Nat.ble_eq] at t3
 obtain ⟨⟨⟨⟨d1, d2⟩, d3⟩, d4⟩, d5⟩ := t3
 generalize encN k a b i = x at *
 have hx : x < 65536 := by omega
 have hdec := qDq x hx
 rw [d1] at hdec
 have hv : decV x = rdV (layN (qF k)) (layM (qF k)) (qu (qF k)) (qU (qF k)) k x /\ decE x = 0 := by
  unfold decV decE
  rw [hdec, if_pos ⟨qEc hx, by omega⟩, if_pos (qEc hx), if_neg (by omega)]
  exact ⟨rfl, rfl⟩
 refine ⟨?_, hv.2⟩
 rw [hv.1, qJh k x hk hx, d2, d3]
 have d4' : x % 2 ^ qz k = i := by
  rw [<- Nat.and_two_pow_sub_one_eq_mod]
  exact d4
 rw [d4', hback]
theorem turn2 {x : Int} (h : decE x = 0) : ∃ op n m imm : Int, decV x = .agg #[.int .i64 op, .int .i64 n, .int .i64 m, .int .i64 imm] /\ qV op n m imm = 0 /\ encI op n m imm = x := by
 have hw : qP x 0 65535 = true := by
  unfold decE at h
  by_cases hw : qP x 0 65535 = true
  ·exact hw
  ·rw [if_neg hw] at h; simp at h
 have hw' := hw
 simp [qP] at hw'
 obtain ⟨y, rfl⟩ := Int.eq_ofNat_of_zero_le hw'.1
 have hx : y < 65536 := by omega
 have hdec := qDq y hx
 have hk0 : decN y ≠ 0 := by
  intro h0
  unfold decE at h
  rw [if_pos hw, hdec, h0] at h
  simp at h
 have hc := qC5 _ _ _ chk2_all y (Nat.zero_le _) (by simpa using hx)
 unfold chk2 at hc
 simp only [Bool.or_eq_true, Bool.and_eq_true, Nat.beq_eq, Nat.ble_eq] at hc
 have hc' := hc.resolve_left hk0
 generalize decN y = k at *
 obtain ⟨d1, d2⟩ := hc'
 have hk : k < 28 := by omega
 obtain ⟨e1, e2, e3, w1, w2, w3, l0, l1, b0, b1⟩ := qDB k hk
 have hv : decV y = rdV (layN (qF k)) (layM (qF k)) (qu (qF k)) (qU (qF k)) k y := by
  unfold decV
  rw [hdec, if_pos ⟨hw, by omega⟩]
 rw [hv, qJh k y hk hx]
 have pN := Nat.two_pow_pos (qB2 k)
 have pM := Nat.two_pow_pos (qBv k)
 have pI := Nat.two_pow_pos (qz k)
 have qN : 2 ^ qB2 k <= 16 := by rcases w1 with h | h <;> rw [h] <;> decide
 have qM : 2 ^ qBv k <= 16 := by rcases w2 with h | h <;> rw [h] <;> decide
 have m1 : Nat.land (y / 256) (2 ^ qB2 k - 1) <= 2 ^ qB2 k - 1 := Nat.and_le_right
 have m2 : Nat.land (y / 16) (2 ^ qBv k - 1) <= 2 ^ qBv k - 1 := Nat.and_le_right
 have m3 : Nat.land y (2 ^ qz k - 1) = y % 2 ^ qz k := Nat.and_two_pow_sub_one_eq_mod _ _
 have m4 : y % 2 ^ qz k < 2 ^ qz k := Nat.mod_lt _ pI
 rw [m3] at d1
 generalize Nat.land (y / 256) (2 ^ qB2 k - 1) = a at *
 generalize Nat.land (y / 16) (2 ^ qBv k - 1) = b at *
 generalize y % 2 ^ qz k = i at *
 refine ⟨_, _, _, _, rfl, ?_, ?_⟩
 ·unfold qV
  rw [if_pos (by simp [qAl, qP]; omega), if_pos]
  refine ⟨by simp [qP]; omega, by simp [qP]; omega, ?_⟩
  simp only [qP, decide_eq_true_eq]
  split <;> omega
 ·rw [qHc k a b _ hk (by omega) (by omega)]
  have : ((if qU (qF k) < (i : Int) then (i : Int) - ((2 ^ qz k : Nat) : Int) else (i : Int)) % ((2 ^ qz k : Nat) : Int)).toNat = i := by
   split
   ·rw [Int.sub_emod_right, Int.emod_eq_of_lt (by omega) (by omega)]; rfl
   ·rw [Int.emod_eq_of_lt (by omega) (by omega)]; rfl
  rw [this, d1]
theorem turn3 {x : Int} (h : decE x ≠ 0) : decV x = .agg #[.int .i64 0, .int .i64 0, .int .i64 0, .int .i64 0] := by
 unfold decE at h
 unfold decV
 by_cases hw : qP x 0 65535 = true
 ·rw [if_pos hw] at h
  by_cases h0 : qe x 28 0 = 0
  ·rw [if_neg (by simp [h0])]
  ·rw [if_neg h0] at h; simp at h
 ·rw [if_neg (by simp [hw])]
end Go.Proofs.YtgjmbjahgcndnaaGreatDoor.Isa
namespace Go.Proofs.YtgjmbjahgcndnaaGreatDoor.Si
open Go.RowKit Isa
def dV (x : Int) (i : Nat) : Int := match decV x with
 | .agg a => intOf (a.getD i (.int .i64 0))
 | _ => 0
theorem lay_15 (s : Int) : 0 <= layN s /\ layN s <= 15 /\ 0 <= layM s /\ layM s <= 15 := by
 by_cases h : 0 <= s /\ s <= 11
 ·obtain ⟨k, hk⟩ : ∃ k : Nat, s = k := ⟨s.toNat, by omega⟩
  subst hk
  have h' : ∀ j : Fin 12, 0 <= layN (j.val : Int) /\ layN (j.val : Int) <= 15 /\ 0 <= layM (j.val : Int) /\ layM (j.val : Int) <= 15 := by decide
  exact h' ⟨k, by omega⟩
 ·obtain ⟨e0, e1, _, _⟩ := qHC h
  rw [e0, e1]; omega
theorem right_bd {op n m imm : Int} (h : qV op n m imm = 0) : 0 <= n /\ n <= 15 /\ 0 <= m /\ m <= 15 /\ -10000 <= imm /\ imm <= 10000 := by
 have h1 := qB3 h
 have h2 := lay_15 (qF op)
 have h3 := qHQ (qF op)
 omega
theorem dV_all (x : Int) : decV x = .agg #[.int .i64 (dV x 0), .int .i64 (dV x 1), .int .i64 (dV x 2), .int .i64 (dV x 3)] /\ 0 <= dV x 1 /\ dV x 1 <= 15 /\ 0 <= dV x 2 /\ dV x 2 <= 15 /\ -10000 <= dV x 3 /\ dV x 3 <= 10000 := by
 by_cases h : decE x = 0
 ·obtain ⟨op, n, m, imm, hd, hw, _⟩ := turn2 h
  have hb := right_bd hw
  have e0 : dV x 0 = op := by unfold dV; rw [hd]; rfl
  have e1 : dV x 1 = n := by unfold dV; rw [hd]; rfl
  have e2 : dV x 2 = m := by unfold dV; rw [hd]; rfl
  have e3 : dV x 3 = imm := by unfold dV; rw [hd]; rfl
  rw [e0, e1, e2, e3]
  exact ⟨hd, hb⟩
 ·have hd := turn3 h
  have e0 : dV x 0 = 0 := by unfold dV; rw [hd]; rfl
  have e1 : dV x 1 = 0 := by unfold dV; rw [hd]; rfl
  have e2 : dV x 2 = 0 := by unfold dV; rw [hd]; rfl
  have e3 : dV x 3 = 0 := by unfold dV; rw [hd]; rfl
  rw [e0, e1, e2, e3]
  exact ⟨hd, by omega, by omega, by omega, by omega, by omega, by omega⟩
end Go.Proofs.YtgjmbjahgcndnaaGreatDoor.Si
