/- What AsmFar reads of its code. The text that AsmFar puts together. pllaw5.AsmFar's own walk. -/
import Derived.Test.YtagkmgdjkailkaaGreatDoorPut50
import Derived.Test.YtagkmgdjkailkaaGreatDoorPut47
import Derived.Test.YtagkmgdjkailkaaGreatDoorIsaRefD
namespace Go.Proofs.YtagkmgdjkailkaaGreatDoor
open Go.RowKit Isa

theorem got_half (a b : List UInt8) (x : Int) (h0 : 0 ≤ x) (h1 : x ≤ 65535) : getTo (byL (a ++ (half x ++ b))) (a ++ (half x ++ b)).length (a.length : Int) 2 = x := by
  have hx : ∀ j : Nat, j < 2 → byteAt (byL (a ++ (half x ++ b))) (a ++ (half x ++ b)).length ((a.length : Int) + j) = (((half x)[j]?.map fun c => c.toNat).getD 0 : Nat) := by
    intro j hj
    unfold byteAt
    rw [if_pos ⟨by omega, by simp only [List.length_append, half, List.length_cons, List.length_nil]; omega⟩]
    have : ((a.length : Int) + j).toNat = a.length + j := by omega
    rw [this]
    unfold byL
    rw [List.getElem?_append_right (by omega), List.getElem?_append_left (by simp [half]; omega)]
    have e : a.length + j - a.length = j := by omega
    rw [e]
  have y0 := hx 0 (by omega)
  have y1 := hx 1 (by omega)
  simp only [half, List.getElem?_cons_zero, List.getElem?_cons_succ, Option.map_some, Option.getD_some, lowB_num] at y0 y1
  simp only [getTo]
  rw [show half x = [lowB (x / 256), lowB x] from rfl, y0, y1]
  omega

theorem enc_range {op imm : Int} (h : Isa.wrongI op 0 0 imm = 0) : 0 ≤ Isa.encI op 0 0 imm ∧ Isa.encI op 0 0 imm ≤ 65535 := by
  have h2 := (Isa.turn1 h).2
  unfold Isa.decE at h2
  split at h2
  · next hw =>
    unfold Isa.withinB at hw
    simp at hw
    omega
  · simp at h2

theorem dec_of {op imm : Int} (h : Isa.wrongI op 0 0 imm = 0) (W : World) :
    Calls Tryz.prog 8 #[.int .i64 (Isa.encI op 0 0 imm)] W fun e w' => e = .returned (.tuple #[.agg #[.int .i64 op, .int .i64 0, .int .i64 0, .int .i64 imm], .int .i64 0]) ∧ Below W.heap.size W w' := by
  have := Isa.rDec_any (Isa.encI op 0 0 imm) W
  rw [(Isa.turn1 h).1, (Isa.turn1 h).2] at this
  exact this

theorem wrong_near {op d : Int} (h : op = 17 ∨ op = 18) (h0 : -128 ≤ d) (h1 : d ≤ 127) : Isa.wrongI op 0 0 d = 0 := (In.okB (k := ⟨op, 0, 0, d⟩) (enc_near h h0 h1)).1
theorem wrong_bra {d : Int} (h0 : -2048 ≤ d) (h1 : d ≤ 2047) : Isa.wrongI 19 0 0 d = 0 := (In.okB (k := ⟨19, 0, 0, d⟩) (enc_bra h0 h1)).1

/-- Bytes read where an instruction stands. -/
theorem get_at (v : Value) (a b : List UInt8) (x : Int) (W : World) (p : Int) (hp : p = a.length) (hl : a.length ≤ 100000) (h0 : 0 ≤ x) (h1 : x ≤ 65535) (hv : OBytes W v (a ++ (half x ++ b))) :
    Calls Tryz.prog 9 #[v, .int .i64 p, .int .i64 2] W fun e w' => e = .returned (.int .i64 x) ∧ w' = W := by
  subst hp
  have := rget_bytes _ v W hv (a.length : Int) 2 (by omega) (by omega) (by omega) (by omega)
  rw [show (2 : Int).toNat = 2 from rfl, got_half a b x h0 h1] at this
  exact this

end Go.Proofs.YtagkmgdjkailkaaGreatDoor

namespace Go.Proofs.YtagkmgdjkailkaaGreatDoor
open Go.RowKit

def catFT (s1 s2 : List UInt8) : ByteArray := (((⟨#[98, 116]⟩ : ByteArray) ++ ⟨#[32, 116, 104, 101, 114, 101, 10]⟩) ++ ((((((⟨#[46, 114, 101, 112, 116, 32]⟩ : ByteArray) ++ ⟨s1.toArray⟩) ++ ⟨#[10, 46, 119, 111, 114, 100, 32, 57, 44, 57, 44, 57, 44, 57, 44, 57, 44, 57, 44, 57, 44, 57, 44, 57, 44, 57, 44, 57, 44, 57, 44, 57, 44, 57, 44, 57, 44, 57, 44, 57, 44, 57, 44, 57, 44, 57, 44, 57, 44, 57, 44, 57, 44, 57, 44, 57, 44, 57, 44, 57, 44, 57, 44, 57, 44, 57, 10, 46, 101, 110, 100, 114, 10, 46, 114, 101, 112, 116, 32]⟩) ++ ⟨s2.toArray⟩) ++ ⟨#[10, 110, 111, 112, 10, 46, 101, 110, 100, 114, 10]⟩))) ++ ⟨#[116, 104, 101, 114, 101, 58, 32, 114, 116, 115, 10, 110, 111, 112, 10]⟩
theorem catFT_eq (q r : Nat) : catFT (Lib.itoa q) (Lib.itoa r) = ⟨(farS false false q r).toArray⟩ := by
  unfold catFT
  refine ByteArray.ext ?_
  simp [farS, farL, reptL, brL, rtsL, nopL, wordL, endrL, ByteArray.data_append]
def catFN (s1 s2 : List UInt8) : ByteArray := (((⟨#[98, 102]⟩ : ByteArray) ++ ⟨#[32, 116, 104, 101, 114, 101, 10]⟩) ++ ((((((⟨#[46, 114, 101, 112, 116, 32]⟩ : ByteArray) ++ ⟨s1.toArray⟩) ++ ⟨#[10, 46, 119, 111, 114, 100, 32, 57, 44, 57, 44, 57, 44, 57, 44, 57, 44, 57, 44, 57, 44, 57, 44, 57, 44, 57, 44, 57, 44, 57, 44, 57, 44, 57, 44, 57, 44, 57, 44, 57, 44, 57, 44, 57, 44, 57, 44, 57, 44, 57, 44, 57, 44, 57, 44, 57, 44, 57, 44, 57, 44, 57, 44, 57, 44, 57, 10, 46, 101, 110, 100, 114, 10, 46, 114, 101, 112, 116, 32]⟩) ++ ⟨s2.toArray⟩) ++ ⟨#[10, 110, 111, 112, 10, 46, 101, 110, 100, 114, 10]⟩))) ++ ⟨#[116, 104, 101, 114, 101, 58, 32, 114, 116, 115, 10, 110, 111, 112, 10]⟩
theorem catFN_eq (q r : Nat) : catFN (Lib.itoa q) (Lib.itoa r) = ⟨(farS false true q r).toArray⟩ := by
  unfold catFN
  refine ByteArray.ext ?_
  simp [farS, farL, reptL, brL, rtsL, nopL, wordL, endrL, ByteArray.data_append]
def catBT (s1 s2 : List UInt8) : ByteArray := (((⟨#[116, 104, 101, 114, 101, 58, 32, 114, 116, 115, 10, 110, 111, 112, 10]⟩ : ByteArray) ++ ((((((⟨#[46, 114, 101, 112, 116, 32]⟩ : ByteArray) ++ ⟨s1.toArray⟩) ++ ⟨#[10, 46, 119, 111, 114, 100, 32, 57, 44, 57, 44, 57, 44, 57, 44, 57, 44, 57, 44, 57, 44, 57, 44, 57, 44, 57, 44, 57, 44, 57, 44, 57, 44, 57, 44, 57, 44, 57, 44, 57, 44, 57, 44, 57, 44, 57, 44, 57, 44, 57, 44, 57, 44, 57, 44, 57, 44, 57, 44, 57, 44, 57, 44, 57, 44, 57, 10, 46, 101, 110, 100, 114, 10, 46, 114, 101, 112, 116, 32]⟩) ++ ⟨s2.toArray⟩) ++ ⟨#[10, 110, 111, 112, 10, 46, 101, 110, 100, 114, 10]⟩))) ++ ⟨#[98, 116]⟩) ++ ⟨#[32, 116, 104, 101, 114, 101, 10]⟩
theorem catBT_eq (q r : Nat) : catBT (Lib.itoa q) (Lib.itoa r) = ⟨(farS true false q r).toArray⟩ := by
  unfold catBT
  refine ByteArray.ext ?_
  simp [farS, farL, reptL, brL, rtsL, nopL, wordL, endrL, ByteArray.data_append]
def catBN (s1 s2 : List UInt8) : ByteArray := (((⟨#[116, 104, 101, 114, 101, 58, 32, 114, 116, 115, 10, 110, 111, 112, 10]⟩ : ByteArray) ++ ((((((⟨#[46, 114, 101, 112, 116, 32]⟩ : ByteArray) ++ ⟨s1.toArray⟩) ++ ⟨#[10, 46, 119, 111, 114, 100, 32, 57, 44, 57, 44, 57, 44, 57, 44, 57, 44, 57, 44, 57, 44, 57, 44, 57, 44, 57, 44, 57, 44, 57, 44, 57, 44, 57, 44, 57, 44, 57, 44, 57, 44, 57, 44, 57, 44, 57, 44, 57, 44, 57, 44, 57, 44, 57, 44, 57, 44, 57, 44, 57, 44, 57, 44, 57, 44, 57, 10, 46, 101, 110, 100, 114, 10, 46, 114, 101, 112, 116, 32]⟩) ++ ⟨s2.toArray⟩) ++ ⟨#[10, 110, 111, 112, 10, 46, 101, 110, 100, 114, 10]⟩))) ++ ⟨#[98, 102]⟩) ++ ⟨#[32, 116, 104, 101, 114, 101, 10]⟩
theorem catBN_eq (q r : Nat) : catBN (Lib.itoa q) (Lib.itoa r) = ⟨(farS true true q r).toArray⟩ := by
  unfold catBN
  refine ByteArray.ext ?_
  simp [farS, farL, reptL, brL, rtsL, nopL, wordL, endrL, ByteArray.data_append]

end Go.Proofs.YtagkmgdjkailkaaGreatDoor

namespace Go.Proofs.YtagkmgdjkailkaaGreatDoor
open Go.RowKit

set_option maxHeartbeats 8000000 in
set_option maxRecDepth 100000 in
theorem far_FT (N : Nat) (w : World) (hA : AllLaid w) (hN : N ≤ 1900) :
    Calls Tryz.prog 3 #[.int .i64 (N : Int), .bool false, .bool false] w fun e w' => e = .returned (.bool true) ∧ Below w.heap.size w w' := by
  have HA := Lib.hid hA
  clear hA
  have HAL := Lib.hid (alive_any w HA.out)
  have HI1 := Lib.hid fun W (hb : Below w.heap.size w W) => itoa_of ((N : Int) / 30) (by omega) (by omega) W (HA.out.gl.below hb HA.out.gl.sz)
  have HI2 := Lib.hid fun W (hb : Below w.heap.size w W) => itoa_of ((N : Int) % 30) (by omega) (by omega) W (HA.out.gl.below hb HA.out.gl.sz)
  have hl1 := Lib.itoa_length_le ((N : Int) / 30) (by omega) (by omega)
  have hl2 := Lib.itoa_length_le ((N : Int) % 30) (by omega) (by omega)
  obtain ⟨s1, hs1⟩ : ∃ s1, Lib.itoa ((N : Int) / 30) = s1 := ⟨_, rfl⟩
  obtain ⟨s2, hs2⟩ : ∃ s2, Lib.itoa ((N : Int) % 30) = s2 := ⟨_, rfl⟩
  rw [hs1] at HI1 hl1
  rw [hs2] at HI2 hl2
  obtain ⟨FS, hFS⟩ : ∃ FS, farS false false (N / 30) (N % 30) = FS := ⟨_, rfl⟩
  have hFl : FS.length ≤ 900 := by
    rw [← hFS]
    exact Nat.le_trans (len_of _ (far_ok false false (N / 30) (N % 30) (by omega) (by omega))) (by simp [farL])
  have hS : catFT s1 s2 = ⟨FS.toArray⟩ := by
    rw [← hs1, ← hs2, ← hFS]
    exact catFT_eq (N / 30) (N % 30)
  have hcv := fun W => Lib.run_convert_string_bytes (P := Tryz.prog) W 9 24 5 ⟨FS.toArray⟩ Tryz.underlying9 Tryz.underlying24 Tryz.underlying5
  rw [← hS] at hcv
  unfold catFT at hcv hS
  clear hs1 hs2
  have g0 : ¬ (N : Int) < 0 := by omega
  have g1 : ¬ (1900 : Int) < N := by omega
  go_enter Tryz.func3, Tryz.ntmps3
  go_wp2_with (go_at_call 5; refine HAL.out.mono ?_; rintro e w1 ⟨rfl, hb1⟩; have HB1 := Lib.hid hb1; clear hb1)
  refine (HI1.out _ HB1.out).mono ?_
  rintro e w2 ⟨rfl, hb2⟩
  have HB2 := Lib.hid (HB1.out.trans (hb2.mono HB1.out.size))
  clear hb2 HI1
  have HS := Lib.hid hS
  clear hS
  go_wp2_with (go_at_call 6; refine (HI2.out _ HB2.out).mono ?_; rintro e w3 ⟨rfl, hb3⟩; have HB3 := Lib.hid (HB2.out.trans (hb3.mono HB2.out.size)); clear hb3)
  have hlen : FS.length = 9 + (6 + s1.length + 79 + s2.length + 11) + 15 := by
    have := congrArg ByteArray.size HS.out
    simp [ByteArray.size_append] at this
    have e : (ByteArray.mk FS.toArray).size = FS.length := by simp [ByteArray.size]
    simp [ByteArray.size] at this
    omega
  rw [HS.out, ← hlen]
  have hbW : Below w3.heap.size w3 (Lib.bytesWorld w3 5 ⟨FS.toArray⟩) := Lib.bytesWorld_below _ _ _
  have hbr : Sc.BReads (Lib.bytesWorld w3 5 ⟨FS.toArray⟩) (.slice (some ⟨w3.heap.size, 0, none⟩) FS.length (grownCap w3 FS.length 0 5)) (farS false false (N / 30) (N % 30)) := by
    rw [hFS]
    refine ⟨_, _, rfl, by unfold maxLen; omega, fun _ => ⟨_, _, rfl, by rw [Lib.bytesWorld_size]; omega, fun i hi => ?_⟩⟩
    rw [Nat.zero_add, Lib.bytesWorld_cell _ _ _ _ (by simpa [ByteArray.size] using hi)]
    simp [List.getD, hi]
  have hBW : Below w.heap.size w (Lib.bytesWorld w3 5 ⟨FS.toArray⟩) := HB3.out.trans (hbW.mono HB3.out.size)
  obtain ⟨code, tp, hsay, hcall⟩ := unit_far _ false false (N / 30) (N % 30) _ (HA.out.next hBW) (by omega) (by omega) hbr
  refine hcall.mono ?_
  rintro e w4 ⟨⟨ca, cl, cc, sa, sl, sc, qa, ql, qc, rfl, hob⟩, hb4⟩
  obtain ⟨hc1, hc2, hc3⟩ := hob
  rw [show 30 * (N / 30) + N % 30 = N by omega] at hsay
  have HB4 := Lib.hid (hBW.trans (hb4.mono hBW.size))
  obtain ⟨ad1, cp1, e1, _⟩ := id hc1
  injection e1 with e1a e1 e1c
  obtain ⟨ad2, cp2, e2, _, hsc⟩ := id hc2
  injection e2 with e2a e2 e2c
  simp only [List.length_singleton] at e2
  obtain ⟨sb, so, hsa, hsb, hscell⟩ := hsc (by simp)
  have ks1 := (hscell 0 (by simp)).2
  have ks0 := (hscell 0 (by simp)).1
  simp only [List.getElem_cons_zero, Nat.zero_mul, Nat.add_zero] at ks1 ks0
  obtain ⟨ad3, cp3, e3, _⟩ := id hc3
  injection e3 with e3a e3 e3c
  simp only [List.length_nil] at e3
  unfold FarSays at hsay
  simp only [Bool.false_eq_true, if_false] at hsay
  subst e1a e1c e2a e2 e2c e3a e3 e3c hsa
  have HC1 := Lib.hid hc1
  clear hcall hc1 hc2 hc3 hb4 hBW hbW hbr hcv hscell hsc hFS HS hlen
  by_cases hnear : N ≤ 128
  · rw [if_pos hnear] at hsay
    obtain ⟨a, d, b, hcode, ha, hcl, htp0, hd0, hd1⟩ := hsay
    have htp : tp = 4 + 2 * d := by omega
    clear htp0
    subst htp
    have hwr := wrong_near (opB_ok false) hd0 hd1
    have hrg := enc_range hwr
    have HG := Lib.hid fun W (hb : Below w4.heap.size w4 W) => get_at _ a b (Isa.encI (opB false) 0 0 d) W 0 (by omega) (by omega) hrg.1 hrg.2 (by rw [← hcode]; exact HC1.out.below hb (Nat.le_refl _))
    have HD := Lib.hid fun W => dec_of hwr W
    rw [hcl] at e1
    subst e1
    simp only [opB, Bool.false_eq_true, if_false] at HG HD
    generalize Isa.encI 17 0 0 d = x at *
    have hnear' : (N : Int) ≤ 128 := by omega
    clear HC1 hcode hcl hwr
    go_wp2_with fail
    obtain ⟨W5, hW5⟩ : ∃ X, X = (w4.alloc (.cells #[.slice ca (6 + 2 * N) cc, .slice (some ⟨sb, so, none⟩) 1 sc, .slice qa 0 qc] 28)).alloc (.cells #[.int .i64 0, .int .i64 0] 31) := ⟨_, rfl⟩
    have x0 : W5.heap[w4.heap.size]? = some (.cells #[.slice ca (6 + 2 * N) cc, .slice (some ⟨sb, so, none⟩) 1 sc, .slice qa 0 qc] 28 (0, 0)) := by rw [hW5, old2 _ _ (by go_size)]; exact new_at _ _ rfl
    have hb5 : Below w4.heap.size w4 W5 := by rw [hW5]; go_grown
    rw [← hW5]
    have HB5 := Lib.hid (HB4.out.trans (hb5.mono HB4.out.size))
    refine (HG.out W5 hb5).mono ?_
    rintro e W5' ⟨rfl, rfl⟩
    have X0 := Lib.hid x0
    clear hW5 hb5 HG x0 ks0 ks1
    go_wp2_with (go_at_call 8; refine (HD.out _).mono ?_; rintro e w6 ⟨rfl, hb6⟩; have y0 := (hb6.block _ (blk_lt X0.out)).trans X0.out; have q0 : w6.cell? ⟨w4.heap.size, 0, none⟩ = some (.slice ca (6 + 2 * N) cc) := blk_cell y0 rfl; have hz6 := blk_lt y0; have HB6 := Lib.hid (HB5.out.trans (hb6.mono HB5.out.size)); clear hb6 y0)
    go_ret
    exact ⟨rfl, HB6.out.alloc HB6.out.size _⟩
  · rw [if_neg hnear] at hsay
    obtain ⟨a, d, b, hcode, ha, hcl, htp0, hd0, hd1⟩ := hsay
    have htp : tp = 6 + 2 * d := by omega
    clear htp0
    subst htp
    have hop : opB false = 17 := rfl
    have hw1 : Isa.wrongI 18 0 0 1 = 0 := wrong_near (.inr rfl) (by omega) (by omega)
    have hw2 := wrong_bra hd0 hd1
    have hr1 := enc_range hw1
    have hr2 := enc_range hw2
    have hc1 : code = a ++ (half (Isa.encI 18 0 0 1) ++ (half (Isa.encI 19 0 0 d) ++ ([0, 9] ++ b))) := by rw [hcode, hop]; simp [farB]
    have hc2 : code = (a ++ half (Isa.encI 18 0 0 1)) ++ (half (Isa.encI 19 0 0 d) ++ ([0, 9] ++ b)) := by rw [hc1, List.append_assoc]
    have hc3 : code = (a ++ half (Isa.encI 18 0 0 1) ++ half (Isa.encI 19 0 0 d)) ++ (half 9 ++ b) := by rw [hc1, show half 9 = [0, 9] from rfl]; simp
    have HG1 := Lib.hid fun W (hb : Below w4.heap.size w4 W) => get_at _ a _ (Isa.encI 18 0 0 1) W 0 (by omega) (by omega) hr1.1 hr1.2 (by rw [← hc1]; exact HC1.out.below hb (Nat.le_refl _))
    have HG2 := Lib.hid fun W (hb : Below w4.heap.size w4 W) => get_at _ (a ++ half (Isa.encI 18 0 0 1)) _ (Isa.encI 19 0 0 d) W 2 (by rw [List.length_append, half_len]; omega) (by rw [List.length_append, half_len]; omega) hr2.1 hr2.2 (by rw [← hc2]; exact HC1.out.below hb (Nat.le_refl _))
    have HG3 := Lib.hid fun W (hb : Below w4.heap.size w4 W) => get_at _ (a ++ half (Isa.encI 18 0 0 1) ++ half (Isa.encI 19 0 0 d)) b 9 W 4 (by rw [List.length_append, List.length_append, half_len, half_len]; omega) (by rw [List.length_append, List.length_append, half_len, half_len]; omega) (by omega) (by omega) (by rw [← hc3]; exact HC1.out.below hb (Nat.le_refl _))
    have HD1 := Lib.hid fun W => dec_of hw1 W
    have HD2 := Lib.hid fun W => dec_of hw2 W
    rw [hcl] at e1
    subst e1
    clear HC1 hcode hcl hw1 hw2 hc1 hc2 hc3
    generalize Isa.encI 18 0 0 1 = x1 at *
    generalize Isa.encI 19 0 0 d = x2 at *
    have hnear' : ¬ (N : Int) ≤ 128 := by omega
    go_wp2_with fail
    obtain ⟨W5, hW5⟩ : ∃ X, X = (w4.alloc (.cells #[.slice ca (10 + 2 * N) cc, .slice (some ⟨sb, so, none⟩) 1 sc, .slice qa 0 qc] 28)).alloc (.cells #[.int .i64 0, .int .i64 0] 31) := ⟨_, rfl⟩
    have x0 : W5.heap[w4.heap.size]? = some (.cells #[.slice ca (10 + 2 * N) cc, .slice (some ⟨sb, so, none⟩) 1 sc, .slice qa 0 qc] 28 (0, 0)) := by rw [hW5, old2 _ _ (by go_size)]; exact new_at _ _ rfl
    have hb5 : Below w4.heap.size w4 W5 := by rw [hW5]; go_grown
    rw [← hW5]
    have HB45 := Lib.hid hb5
    refine (HG1.out W5 hb5).mono ?_
    rintro e W5' ⟨rfl, rfl⟩
    have X0 := Lib.hid x0
    clear hW5 hb5 HG1 x0 ks0 ks1
    go_wp2_with (go_at_call 8; refine (HD1.out _).mono ?_; rintro e w6 ⟨rfl, hb6⟩; have y0 := (hb6.block _ (blk_lt X0.out)).trans X0.out; have q0 : w6.cell? ⟨w4.heap.size, 0, none⟩ = some (.slice ca (10 + 2 * N) cc) := blk_cell y0 rfl; have hz6 := blk_lt y0; have HB46 := Lib.hid (HB45.out.trans (hb6.mono HB45.out.size)); have Y0 := Lib.hid y0; clear hb6 y0)
    obtain ⟨W7, hW7⟩ : ∃ X, X = w6.alloc (.cells #[.int .i64 18, .int .i64 0, .int .i64 0, .int .i64 1] 37) := ⟨_, rfl⟩
    have x7 : W7.heap[w6.heap.size]? = some (.cells #[.int .i64 18, .int .i64 0, .int .i64 0, .int .i64 1] 37 (0, 0)) := by rw [hW7]; exact new_at _ _ rfl
    have y7 : W7.heap[w4.heap.size]? = some (.cells #[.slice ca (10 + 2 * N) cc, .slice (some ⟨sb, so, none⟩) 1 sc, .slice qa 0 qc] 28 (0, 0)) := by rw [hW7, old2 _ _ hz6]; exact Y0.out
    have hb7 : Below w4.heap.size w4 W7 := by rw [hW7]; exact HB46.out.alloc HB46.out.size _
    rw [← hW7]
    have HB47 := Lib.hid hb7
    refine (HG2.out W7 hb7).mono ?_
    rintro e W7' ⟨rfl, rfl⟩
    generalize w6.heap.size = gi at *
    have X7 := Lib.hid x7
    have Y7 := Lib.hid y7
    clear hW7 hb7 HG2 x7 y7 q0 Y0 X0
    go_wp2_with (go_at_call 8; refine (HD2.out _).mono ?_; rintro e w8 ⟨rfl, hb8⟩; have y8 := (hb8.block _ (blk_lt Y7.out)).trans Y7.out; have x8 := (hb8.block _ (blk_lt X7.out)).trans X7.out; have q8 : w8.cell? ⟨w4.heap.size, 0, none⟩ = some (.slice ca (10 + 2 * N) cc) := blk_cell y8 rfl; have p0 : w8.cell? ⟨gi, 0, none⟩ = some (.int .i64 18) := blk_cell x8 rfl; have p3 : w8.cell? ⟨gi, 3, none⟩ = some (.int .i64 1) := blk_cell x8 rfl; have hz8 := blk_lt y8; have hzi := blk_lt x8; have HB48 := Lib.hid (HB47.out.trans (hb8.mono HB47.out.size)); clear hb8 y8 x8)
    have hb9 := HB48.out.alloc HB48.out.size (.cells #[.int .i64 19, .int .i64 0, .int .i64 0, .int .i64 d] 37)
    refine (HG3.out _ hb9).mono ?_
    rintro e w9 ⟨rfl, rfl⟩
    have HB9 := Lib.hid (HB4.out.trans (hb9.mono HB4.out.size))
    clear hb9 HG3
    go_wp2
    go_ret
    exact ⟨rfl, HB9.out⟩

set_option maxHeartbeats 8000000 in
set_option maxRecDepth 100000 in
theorem far_FN (N : Nat) (w : World) (hA : AllLaid w) (hN : N ≤ 1900) :
    Calls Tryz.prog 3 #[.int .i64 (N : Int), .bool false, .bool true] w fun e w' => e = .returned (.bool true) ∧ Below w.heap.size w w' := by
  have HA := Lib.hid hA
  clear hA
  have HAL := Lib.hid (alive_any w HA.out)
  have HI1 := Lib.hid fun W (hb : Below w.heap.size w W) => itoa_of ((N : Int) / 30) (by omega) (by omega) W (HA.out.gl.below hb HA.out.gl.sz)
  have HI2 := Lib.hid fun W (hb : Below w.heap.size w W) => itoa_of ((N : Int) % 30) (by omega) (by omega) W (HA.out.gl.below hb HA.out.gl.sz)
  have hl1 := Lib.itoa_length_le ((N : Int) / 30) (by omega) (by omega)
  have hl2 := Lib.itoa_length_le ((N : Int) % 30) (by omega) (by omega)
  obtain ⟨s1, hs1⟩ : ∃ s1, Lib.itoa ((N : Int) / 30) = s1 := ⟨_, rfl⟩
  obtain ⟨s2, hs2⟩ : ∃ s2, Lib.itoa ((N : Int) % 30) = s2 := ⟨_, rfl⟩
  rw [hs1] at HI1 hl1
  rw [hs2] at HI2 hl2
  obtain ⟨FS, hFS⟩ : ∃ FS, farS false true (N / 30) (N % 30) = FS := ⟨_, rfl⟩
  have hFl : FS.length ≤ 900 := by
    rw [← hFS]
    exact Nat.le_trans (len_of _ (far_ok false true (N / 30) (N % 30) (by omega) (by omega))) (by simp [farL])
  have hS : catFN s1 s2 = ⟨FS.toArray⟩ := by
    rw [← hs1, ← hs2, ← hFS]
    exact catFN_eq (N / 30) (N % 30)
  have hcv := fun W => Lib.run_convert_string_bytes (P := Tryz.prog) W 9 24 5 ⟨FS.toArray⟩ Tryz.underlying9 Tryz.underlying24 Tryz.underlying5
  rw [← hS] at hcv
  unfold catFN at hcv hS
  clear hs1 hs2
  have g0 : ¬ (N : Int) < 0 := by omega
  have g1 : ¬ (1900 : Int) < N := by omega
  go_enter Tryz.func3, Tryz.ntmps3
  go_wp2_with (go_at_call 5; refine HAL.out.mono ?_; rintro e w1 ⟨rfl, hb1⟩; have HB1 := Lib.hid hb1; clear hb1)
  refine (HI1.out _ HB1.out).mono ?_
  rintro e w2 ⟨rfl, hb2⟩
  have HB2 := Lib.hid (HB1.out.trans (hb2.mono HB1.out.size))
  clear hb2 HI1
  have HS := Lib.hid hS
  clear hS
  go_wp2_with (go_at_call 6; refine (HI2.out _ HB2.out).mono ?_; rintro e w3 ⟨rfl, hb3⟩; have HB3 := Lib.hid (HB2.out.trans (hb3.mono HB2.out.size)); clear hb3)
  have hlen : FS.length = 9 + (6 + s1.length + 79 + s2.length + 11) + 15 := by
    have := congrArg ByteArray.size HS.out
    simp [ByteArray.size_append] at this
    have e : (ByteArray.mk FS.toArray).size = FS.length := by simp [ByteArray.size]
    simp [ByteArray.size] at this
    omega
  rw [HS.out, ← hlen]
  have hbW : Below w3.heap.size w3 (Lib.bytesWorld w3 5 ⟨FS.toArray⟩) := Lib.bytesWorld_below _ _ _
  have hbr : Sc.BReads (Lib.bytesWorld w3 5 ⟨FS.toArray⟩) (.slice (some ⟨w3.heap.size, 0, none⟩) FS.length (grownCap w3 FS.length 0 5)) (farS false true (N / 30) (N % 30)) := by
    rw [hFS]
    refine ⟨_, _, rfl, by unfold maxLen; omega, fun _ => ⟨_, _, rfl, by rw [Lib.bytesWorld_size]; omega, fun i hi => ?_⟩⟩
    rw [Nat.zero_add, Lib.bytesWorld_cell _ _ _ _ (by simpa [ByteArray.size] using hi)]
    simp [List.getD, hi]
  have hBW : Below w.heap.size w (Lib.bytesWorld w3 5 ⟨FS.toArray⟩) := HB3.out.trans (hbW.mono HB3.out.size)
  obtain ⟨code, tp, hsay, hcall⟩ := unit_far _ false true (N / 30) (N % 30) _ (HA.out.next hBW) (by omega) (by omega) hbr
  refine hcall.mono ?_
  rintro e w4 ⟨⟨ca, cl, cc, sa, sl, sc, qa, ql, qc, rfl, hob⟩, hb4⟩
  obtain ⟨hc1, hc2, hc3⟩ := hob
  rw [show 30 * (N / 30) + N % 30 = N by omega] at hsay
  have HB4 := Lib.hid (hBW.trans (hb4.mono hBW.size))
  obtain ⟨ad1, cp1, e1, _⟩ := id hc1
  injection e1 with e1a e1 e1c
  obtain ⟨ad2, cp2, e2, _, hsc⟩ := id hc2
  injection e2 with e2a e2 e2c
  simp only [List.length_singleton] at e2
  obtain ⟨sb, so, hsa, hsb, hscell⟩ := hsc (by simp)
  have ks1 := (hscell 0 (by simp)).2
  have ks0 := (hscell 0 (by simp)).1
  simp only [List.getElem_cons_zero, Nat.zero_mul, Nat.add_zero] at ks1 ks0
  obtain ⟨ad3, cp3, e3, _⟩ := id hc3
  injection e3 with e3a e3 e3c
  simp only [List.length_nil] at e3
  unfold FarSays at hsay
  simp only [Bool.false_eq_true, if_false] at hsay
  subst e1a e1c e2a e2 e2c e3a e3 e3c hsa
  have HC1 := Lib.hid hc1
  clear hcall hc1 hc2 hc3 hb4 hBW hbW hbr hcv hscell hsc hFS HS hlen
  by_cases hnear : N ≤ 128
  · rw [if_pos hnear] at hsay
    obtain ⟨a, d, b, hcode, ha, hcl, htp0, hd0, hd1⟩ := hsay
    have htp : tp = 4 + 2 * d := by omega
    clear htp0
    subst htp
    have hwr := wrong_near (opB_ok true) hd0 hd1
    have hrg := enc_range hwr
    have HG := Lib.hid fun W (hb : Below w4.heap.size w4 W) => get_at _ a b (Isa.encI (opB true) 0 0 d) W 0 (by omega) (by omega) hrg.1 hrg.2 (by rw [← hcode]; exact HC1.out.below hb (Nat.le_refl _))
    have HD := Lib.hid fun W => dec_of hwr W
    rw [hcl] at e1
    subst e1
    simp only [opB, if_true] at HG HD
    generalize Isa.encI 18 0 0 d = x at *
    have hnear' : (N : Int) ≤ 128 := by omega
    clear HC1 hcode hcl hwr
    go_wp2_with fail
    obtain ⟨W5, hW5⟩ : ∃ X, X = (w4.alloc (.cells #[.slice ca (6 + 2 * N) cc, .slice (some ⟨sb, so, none⟩) 1 sc, .slice qa 0 qc] 28)).alloc (.cells #[.int .i64 0, .int .i64 0] 31) := ⟨_, rfl⟩
    have x0 : W5.heap[w4.heap.size]? = some (.cells #[.slice ca (6 + 2 * N) cc, .slice (some ⟨sb, so, none⟩) 1 sc, .slice qa 0 qc] 28 (0, 0)) := by rw [hW5, old2 _ _ (by go_size)]; exact new_at _ _ rfl
    have hb5 : Below w4.heap.size w4 W5 := by rw [hW5]; go_grown
    rw [← hW5]
    have HB5 := Lib.hid (HB4.out.trans (hb5.mono HB4.out.size))
    refine (HG.out W5 hb5).mono ?_
    rintro e W5' ⟨rfl, rfl⟩
    have X0 := Lib.hid x0
    clear hW5 hb5 HG x0 ks0 ks1
    go_wp2_with (go_at_call 8; refine (HD.out _).mono ?_; rintro e w6 ⟨rfl, hb6⟩; have y0 := (hb6.block _ (blk_lt X0.out)).trans X0.out; have q0 : w6.cell? ⟨w4.heap.size, 0, none⟩ = some (.slice ca (6 + 2 * N) cc) := blk_cell y0 rfl; have hz6 := blk_lt y0; have HB6 := Lib.hid (HB5.out.trans (hb6.mono HB5.out.size)); clear hb6 y0)
    go_ret
    exact ⟨rfl, HB6.out.alloc HB6.out.size _⟩
  · rw [if_neg hnear] at hsay
    obtain ⟨a, d, b, hcode, ha, hcl, htp0, hd0, hd1⟩ := hsay
    have htp : tp = 6 + 2 * d := by omega
    clear htp0
    subst htp
    have hop : opB true = 18 := rfl
    have hw1 : Isa.wrongI 17 0 0 1 = 0 := wrong_near (.inl rfl) (by omega) (by omega)
    have hw2 := wrong_bra hd0 hd1
    have hr1 := enc_range hw1
    have hr2 := enc_range hw2
    have hc1 : code = a ++ (half (Isa.encI 17 0 0 1) ++ (half (Isa.encI 19 0 0 d) ++ ([0, 9] ++ b))) := by rw [hcode, hop]; simp [farB]
    have hc2 : code = (a ++ half (Isa.encI 17 0 0 1)) ++ (half (Isa.encI 19 0 0 d) ++ ([0, 9] ++ b)) := by rw [hc1, List.append_assoc]
    have hc3 : code = (a ++ half (Isa.encI 17 0 0 1) ++ half (Isa.encI 19 0 0 d)) ++ (half 9 ++ b) := by rw [hc1, show half 9 = [0, 9] from rfl]; simp
    have HG1 := Lib.hid fun W (hb : Below w4.heap.size w4 W) => get_at _ a _ (Isa.encI 17 0 0 1) W 0 (by omega) (by omega) hr1.1 hr1.2 (by rw [← hc1]; exact HC1.out.below hb (Nat.le_refl _))
    have HG2 := Lib.hid fun W (hb : Below w4.heap.size w4 W) => get_at _ (a ++ half (Isa.encI 17 0 0 1)) _ (Isa.encI 19 0 0 d) W 2 (by rw [List.length_append, half_len]; omega) (by rw [List.length_append, half_len]; omega) hr2.1 hr2.2 (by rw [← hc2]; exact HC1.out.below hb (Nat.le_refl _))
    have HG3 := Lib.hid fun W (hb : Below w4.heap.size w4 W) => get_at _ (a ++ half (Isa.encI 17 0 0 1) ++ half (Isa.encI 19 0 0 d)) b 9 W 4 (by rw [List.length_append, List.length_append, half_len, half_len]; omega) (by rw [List.length_append, List.length_append, half_len, half_len]; omega) (by omega) (by omega) (by rw [← hc3]; exact HC1.out.below hb (Nat.le_refl _))
    have HD1 := Lib.hid fun W => dec_of hw1 W
    have HD2 := Lib.hid fun W => dec_of hw2 W
    rw [hcl] at e1
    subst e1
    clear HC1 hcode hcl hw1 hw2 hc1 hc2 hc3
    generalize Isa.encI 17 0 0 1 = x1 at *
    generalize Isa.encI 19 0 0 d = x2 at *
    have hnear' : ¬ (N : Int) ≤ 128 := by omega
    go_wp2_with fail
    obtain ⟨W5, hW5⟩ : ∃ X, X = (w4.alloc (.cells #[.slice ca (10 + 2 * N) cc, .slice (some ⟨sb, so, none⟩) 1 sc, .slice qa 0 qc] 28)).alloc (.cells #[.int .i64 0, .int .i64 0] 31) := ⟨_, rfl⟩
    have x0 : W5.heap[w4.heap.size]? = some (.cells #[.slice ca (10 + 2 * N) cc, .slice (some ⟨sb, so, none⟩) 1 sc, .slice qa 0 qc] 28 (0, 0)) := by rw [hW5, old2 _ _ (by go_size)]; exact new_at _ _ rfl
    have hb5 : Below w4.heap.size w4 W5 := by rw [hW5]; go_grown
    rw [← hW5]
    have HB45 := Lib.hid hb5
    refine (HG1.out W5 hb5).mono ?_
    rintro e W5' ⟨rfl, rfl⟩
    have X0 := Lib.hid x0
    clear hW5 hb5 HG1 x0 ks0 ks1
    go_wp2_with (go_at_call 8; refine (HD1.out _).mono ?_; rintro e w6 ⟨rfl, hb6⟩; have y0 := (hb6.block _ (blk_lt X0.out)).trans X0.out; have q0 : w6.cell? ⟨w4.heap.size, 0, none⟩ = some (.slice ca (10 + 2 * N) cc) := blk_cell y0 rfl; have hz6 := blk_lt y0; have HB46 := Lib.hid (HB45.out.trans (hb6.mono HB45.out.size)); have Y0 := Lib.hid y0; clear hb6 y0)
    obtain ⟨W7, hW7⟩ : ∃ X, X = w6.alloc (.cells #[.int .i64 17, .int .i64 0, .int .i64 0, .int .i64 1] 37) := ⟨_, rfl⟩
    have x7 : W7.heap[w6.heap.size]? = some (.cells #[.int .i64 17, .int .i64 0, .int .i64 0, .int .i64 1] 37 (0, 0)) := by rw [hW7]; exact new_at _ _ rfl
    have y7 : W7.heap[w4.heap.size]? = some (.cells #[.slice ca (10 + 2 * N) cc, .slice (some ⟨sb, so, none⟩) 1 sc, .slice qa 0 qc] 28 (0, 0)) := by rw [hW7, old2 _ _ hz6]; exact Y0.out
    have hb7 : Below w4.heap.size w4 W7 := by rw [hW7]; exact HB46.out.alloc HB46.out.size _
    rw [← hW7]
    have HB47 := Lib.hid hb7
    refine (HG2.out W7 hb7).mono ?_
    rintro e W7' ⟨rfl, rfl⟩
    generalize w6.heap.size = gi at *
    have X7 := Lib.hid x7
    have Y7 := Lib.hid y7
    clear hW7 hb7 HG2 x7 y7 q0 Y0 X0
    go_wp2_with (go_at_call 8; refine (HD2.out _).mono ?_; rintro e w8 ⟨rfl, hb8⟩; have y8 := (hb8.block _ (blk_lt Y7.out)).trans Y7.out; have x8 := (hb8.block _ (blk_lt X7.out)).trans X7.out; have q8 : w8.cell? ⟨w4.heap.size, 0, none⟩ = some (.slice ca (10 + 2 * N) cc) := blk_cell y8 rfl; have p0 : w8.cell? ⟨gi, 0, none⟩ = some (.int .i64 17) := blk_cell x8 rfl; have p3 : w8.cell? ⟨gi, 3, none⟩ = some (.int .i64 1) := blk_cell x8 rfl; have hz8 := blk_lt y8; have hzi := blk_lt x8; have HB48 := Lib.hid (HB47.out.trans (hb8.mono HB47.out.size)); clear hb8 y8 x8)
    have hb9 := HB48.out.alloc HB48.out.size (.cells #[.int .i64 19, .int .i64 0, .int .i64 0, .int .i64 d] 37)
    refine (HG3.out _ hb9).mono ?_
    rintro e w9 ⟨rfl, rfl⟩
    have HB9 := Lib.hid (HB4.out.trans (hb9.mono HB4.out.size))
    clear hb9 HG3
    go_wp2
    go_ret
    exact ⟨rfl, HB9.out⟩

set_option maxHeartbeats 8000000 in
set_option maxRecDepth 100000 in
theorem far_BT (N : Nat) (w : World) (hA : AllLaid w) (hN : N ≤ 1900) :
    Calls Tryz.prog 3 #[.int .i64 (N : Int), .bool true, .bool false] w fun e w' => e = .returned (.bool true) ∧ Below w.heap.size w w' := by
  have HA := Lib.hid hA
  clear hA
  have HAL := Lib.hid (alive_any w HA.out)
  have HI1 := Lib.hid fun W (hb : Below w.heap.size w W) => itoa_of ((N : Int) / 30) (by omega) (by omega) W (HA.out.gl.below hb HA.out.gl.sz)
  have HI2 := Lib.hid fun W (hb : Below w.heap.size w W) => itoa_of ((N : Int) % 30) (by omega) (by omega) W (HA.out.gl.below hb HA.out.gl.sz)
  have hl1 := Lib.itoa_length_le ((N : Int) / 30) (by omega) (by omega)
  have hl2 := Lib.itoa_length_le ((N : Int) % 30) (by omega) (by omega)
  obtain ⟨s1, hs1⟩ : ∃ s1, Lib.itoa ((N : Int) / 30) = s1 := ⟨_, rfl⟩
  obtain ⟨s2, hs2⟩ : ∃ s2, Lib.itoa ((N : Int) % 30) = s2 := ⟨_, rfl⟩
  rw [hs1] at HI1 hl1
  rw [hs2] at HI2 hl2
  obtain ⟨FS, hFS⟩ : ∃ FS, farS true false (N / 30) (N % 30) = FS := ⟨_, rfl⟩
  have hFl : FS.length ≤ 900 := by
    rw [← hFS]
    exact Nat.le_trans (len_of _ (far_ok true false (N / 30) (N % 30) (by omega) (by omega))) (by simp [farL])
  have hS : catBT s1 s2 = ⟨FS.toArray⟩ := by
    rw [← hs1, ← hs2, ← hFS]
    exact catBT_eq (N / 30) (N % 30)
  have hcv := fun W => Lib.run_convert_string_bytes (P := Tryz.prog) W 9 24 5 ⟨FS.toArray⟩ Tryz.underlying9 Tryz.underlying24 Tryz.underlying5
  rw [← hS] at hcv
  unfold catBT at hcv hS
  clear hs1 hs2
  have g0 : ¬ (N : Int) < 0 := by omega
  have g1 : ¬ (1900 : Int) < N := by omega
  go_enter Tryz.func3, Tryz.ntmps3
  go_wp2_with (go_at_call 5; refine HAL.out.mono ?_; rintro e w1 ⟨rfl, hb1⟩; have HB1 := Lib.hid hb1; clear hb1)
  refine (HI1.out _ HB1.out).mono ?_
  rintro e w2 ⟨rfl, hb2⟩
  have HB2 := Lib.hid (HB1.out.trans (hb2.mono HB1.out.size))
  clear hb2 HI1
  have HS := Lib.hid hS
  clear hS
  go_wp2_with (go_at_call 6; refine (HI2.out _ HB2.out).mono ?_; rintro e w3 ⟨rfl, hb3⟩; have HB3 := Lib.hid (HB2.out.trans (hb3.mono HB2.out.size)); clear hb3)
  have hlen : FS.length = 15 + (6 + s1.length + 79 + s2.length + 11) + 2 + 7 := by
    have := congrArg ByteArray.size HS.out
    simp [ByteArray.size_append] at this
    have e : (ByteArray.mk FS.toArray).size = FS.length := by simp [ByteArray.size]
    simp [ByteArray.size] at this
    omega
  rw [HS.out, ← hlen]
  have hbW : Below w3.heap.size w3 (Lib.bytesWorld w3 5 ⟨FS.toArray⟩) := Lib.bytesWorld_below _ _ _
  have hbr : Sc.BReads (Lib.bytesWorld w3 5 ⟨FS.toArray⟩) (.slice (some ⟨w3.heap.size, 0, none⟩) FS.length (grownCap w3 FS.length 0 5)) (farS true false (N / 30) (N % 30)) := by
    rw [hFS]
    refine ⟨_, _, rfl, by unfold maxLen; omega, fun _ => ⟨_, _, rfl, by rw [Lib.bytesWorld_size]; omega, fun i hi => ?_⟩⟩
    rw [Nat.zero_add, Lib.bytesWorld_cell _ _ _ _ (by simpa [ByteArray.size] using hi)]
    simp [List.getD, hi]
  have hBW : Below w.heap.size w (Lib.bytesWorld w3 5 ⟨FS.toArray⟩) := HB3.out.trans (hbW.mono HB3.out.size)
  obtain ⟨code, tp, hsay, hcall⟩ := unit_far _ true false (N / 30) (N % 30) _ (HA.out.next hBW) (by omega) (by omega) hbr
  refine hcall.mono ?_
  rintro e w4 ⟨⟨ca, cl, cc, sa, sl, sc, qa, ql, qc, rfl, hob⟩, hb4⟩
  obtain ⟨hc1, hc2, hc3⟩ := hob
  rw [show 30 * (N / 30) + N % 30 = N by omega] at hsay
  have HB4 := Lib.hid (hBW.trans (hb4.mono hBW.size))
  obtain ⟨ad1, cp1, e1, _⟩ := id hc1
  injection e1 with e1a e1 e1c
  obtain ⟨ad2, cp2, e2, _, hsc⟩ := id hc2
  injection e2 with e2a e2 e2c
  simp only [List.length_singleton] at e2
  obtain ⟨sb, so, hsa, hsb, hscell⟩ := hsc (by simp)
  have ks1 := (hscell 0 (by simp)).2
  have ks0 := (hscell 0 (by simp)).1
  simp only [List.getElem_cons_zero, Nat.zero_mul, Nat.add_zero] at ks1 ks0
  obtain ⟨ad3, cp3, e3, _⟩ := id hc3
  injection e3 with e3a e3 e3c
  simp only [List.length_nil] at e3
  unfold FarSays at hsay
  simp only [if_true] at hsay
  subst e1a e1c e2a e2 e2c e3a e3 e3c hsa
  have HC1 := Lib.hid hc1
  clear hcall hc1 hc2 hc3 hb4 hBW hbW hbr hcv hscell hsc hFS HS hlen
  by_cases hnear : N ≤ 124
  · rw [if_pos hnear] at hsay
    obtain ⟨a, d, b, hcode, ha, hcl, htp0, hd0, hd1⟩ := hsay
    have htp : tp = 4 + 2 * (N : Int) + 4 + 2 * d := by omega
    clear htp0
    subst htp
    have hwr := wrong_near (opB_ok false) hd0 hd1
    have hrg := enc_range hwr
    have HG := Lib.hid fun W (hb : Below w4.heap.size w4 W) => get_at _ a b (Isa.encI (opB false) 0 0 d) W (4 + 2 * (N : Int)) (by omega) (by omega) hrg.1 hrg.2 (by rw [← hcode]; exact HC1.out.below hb (Nat.le_refl _))
    have HD := Lib.hid fun W => dec_of hwr W
    rw [hcl] at e1
    subst e1
    simp only [opB, Bool.false_eq_true, if_false] at HG HD
    generalize Isa.encI 17 0 0 d = x at *
    have hnear' : (N : Int) ≤ 124 := by omega
    clear HC1 hcode hcl hwr
    go_wp2_with fail
    obtain ⟨W5, hW5⟩ : ∃ X, X = (w4.alloc (.cells #[.slice ca (6 + 2 * N) cc, .slice (some ⟨sb, so, none⟩) 1 sc, .slice qa 0 qc] 28)).alloc (.cells #[.int .i64 0, .int .i64 0] 31) := ⟨_, rfl⟩
    have x0 : W5.heap[w4.heap.size]? = some (.cells #[.slice ca (6 + 2 * N) cc, .slice (some ⟨sb, so, none⟩) 1 sc, .slice qa 0 qc] 28 (0, 0)) := by rw [hW5, old2 _ _ (by go_size)]; exact new_at _ _ rfl
    have hb5 : Below w4.heap.size w4 W5 := by rw [hW5]; go_grown
    rw [← hW5]
    have HB5 := Lib.hid (HB4.out.trans (hb5.mono HB4.out.size))
    refine (HG.out W5 hb5).mono ?_
    rintro e W5' ⟨rfl, rfl⟩
    have X0 := Lib.hid x0
    clear hW5 hb5 HG x0 ks0 ks1
    go_wp2_with (go_at_call 8; refine (HD.out _).mono ?_; rintro e w6 ⟨rfl, hb6⟩; have y0 := (hb6.block _ (blk_lt X0.out)).trans X0.out; have q0 : w6.cell? ⟨w4.heap.size, 0, none⟩ = some (.slice ca (6 + 2 * N) cc) := blk_cell y0 rfl; have hz6 := blk_lt y0; have HB6 := Lib.hid (HB5.out.trans (hb6.mono HB5.out.size)); clear hb6 y0)
    go_ret
    exact ⟨rfl, HB6.out.alloc HB6.out.size _⟩
  · rw [if_neg hnear] at hsay
    obtain ⟨a, d, b, hcode, ha, hcl, htp0, hd0, hd1⟩ := hsay
    have htp : tp = 4 + 2 * (N : Int) + 6 + 2 * d := by omega
    clear htp0
    subst htp
    have hop : opB false = 17 := rfl
    have hw1 : Isa.wrongI 18 0 0 1 = 0 := wrong_near (.inr rfl) (by omega) (by omega)
    have hw2 := wrong_bra hd0 hd1
    have hr1 := enc_range hw1
    have hr2 := enc_range hw2
    have hc1 : code = a ++ (half (Isa.encI 18 0 0 1) ++ (half (Isa.encI 19 0 0 d) ++ ([0, 9] ++ b))) := by rw [hcode, hop]; simp [farB]
    have hc2 : code = (a ++ half (Isa.encI 18 0 0 1)) ++ (half (Isa.encI 19 0 0 d) ++ ([0, 9] ++ b)) := by rw [hc1, List.append_assoc]
    have hc3 : code = (a ++ half (Isa.encI 18 0 0 1) ++ half (Isa.encI 19 0 0 d)) ++ (half 9 ++ b) := by rw [hc1, show half 9 = [0, 9] from rfl]; simp
    have HG1 := Lib.hid fun W (hb : Below w4.heap.size w4 W) => get_at _ a _ (Isa.encI 18 0 0 1) W (4 + 2 * (N : Int)) (by omega) (by omega) hr1.1 hr1.2 (by rw [← hc1]; exact HC1.out.below hb (Nat.le_refl _))
    have HG2 := Lib.hid fun W (hb : Below w4.heap.size w4 W) => get_at _ (a ++ half (Isa.encI 18 0 0 1)) _ (Isa.encI 19 0 0 d) W (4 + 2 * (N : Int) + 2) (by rw [List.length_append, half_len]; omega) (by rw [List.length_append, half_len]; omega) hr2.1 hr2.2 (by rw [← hc2]; exact HC1.out.below hb (Nat.le_refl _))
    have HG3 := Lib.hid fun W (hb : Below w4.heap.size w4 W) => get_at _ (a ++ half (Isa.encI 18 0 0 1) ++ half (Isa.encI 19 0 0 d)) b 9 W (4 + 2 * (N : Int) + 4) (by rw [List.length_append, List.length_append, half_len, half_len]; omega) (by rw [List.length_append, List.length_append, half_len, half_len]; omega) (by omega) (by omega) (by rw [← hc3]; exact HC1.out.below hb (Nat.le_refl _))
    have HD1 := Lib.hid fun W => dec_of hw1 W
    have HD2 := Lib.hid fun W => dec_of hw2 W
    rw [hcl] at e1
    subst e1
    clear HC1 hcode hcl hw1 hw2 hc1 hc2 hc3
    generalize Isa.encI 18 0 0 1 = x1 at *
    generalize Isa.encI 19 0 0 d = x2 at *
    have hnear' : ¬ (N : Int) ≤ 124 := by omega
    go_wp2_with fail
    obtain ⟨W5, hW5⟩ : ∃ X, X = (w4.alloc (.cells #[.slice ca (10 + 2 * N) cc, .slice (some ⟨sb, so, none⟩) 1 sc, .slice qa 0 qc] 28)).alloc (.cells #[.int .i64 0, .int .i64 0] 31) := ⟨_, rfl⟩
    have x0 : W5.heap[w4.heap.size]? = some (.cells #[.slice ca (10 + 2 * N) cc, .slice (some ⟨sb, so, none⟩) 1 sc, .slice qa 0 qc] 28 (0, 0)) := by rw [hW5, old2 _ _ (by go_size)]; exact new_at _ _ rfl
    have hb5 : Below w4.heap.size w4 W5 := by rw [hW5]; go_grown
    rw [← hW5]
    have HB45 := Lib.hid hb5
    refine (HG1.out W5 hb5).mono ?_
    rintro e W5' ⟨rfl, rfl⟩
    have X0 := Lib.hid x0
    clear hW5 hb5 HG1 x0 ks0 ks1
    go_wp2_with (go_at_call 8; refine (HD1.out _).mono ?_; rintro e w6 ⟨rfl, hb6⟩; have y0 := (hb6.block _ (blk_lt X0.out)).trans X0.out; have q0 : w6.cell? ⟨w4.heap.size, 0, none⟩ = some (.slice ca (10 + 2 * N) cc) := blk_cell y0 rfl; have hz6 := blk_lt y0; have HB46 := Lib.hid (HB45.out.trans (hb6.mono HB45.out.size)); have Y0 := Lib.hid y0; clear hb6 y0)
    obtain ⟨W7, hW7⟩ : ∃ X, X = w6.alloc (.cells #[.int .i64 18, .int .i64 0, .int .i64 0, .int .i64 1] 37) := ⟨_, rfl⟩
    have x7 : W7.heap[w6.heap.size]? = some (.cells #[.int .i64 18, .int .i64 0, .int .i64 0, .int .i64 1] 37 (0, 0)) := by rw [hW7]; exact new_at _ _ rfl
    have y7 : W7.heap[w4.heap.size]? = some (.cells #[.slice ca (10 + 2 * N) cc, .slice (some ⟨sb, so, none⟩) 1 sc, .slice qa 0 qc] 28 (0, 0)) := by rw [hW7, old2 _ _ hz6]; exact Y0.out
    have hb7 : Below w4.heap.size w4 W7 := by rw [hW7]; exact HB46.out.alloc HB46.out.size _
    rw [← hW7]
    have HB47 := Lib.hid hb7
    refine (HG2.out W7 hb7).mono ?_
    rintro e W7' ⟨rfl, rfl⟩
    generalize w6.heap.size = gi at *
    have X7 := Lib.hid x7
    have Y7 := Lib.hid y7
    clear hW7 hb7 HG2 x7 y7 q0 Y0 X0
    go_wp2_with (go_at_call 8; refine (HD2.out _).mono ?_; rintro e w8 ⟨rfl, hb8⟩; have y8 := (hb8.block _ (blk_lt Y7.out)).trans Y7.out; have x8 := (hb8.block _ (blk_lt X7.out)).trans X7.out; have q8 : w8.cell? ⟨w4.heap.size, 0, none⟩ = some (.slice ca (10 + 2 * N) cc) := blk_cell y8 rfl; have p0 : w8.cell? ⟨gi, 0, none⟩ = some (.int .i64 18) := blk_cell x8 rfl; have p3 : w8.cell? ⟨gi, 3, none⟩ = some (.int .i64 1) := blk_cell x8 rfl; have hz8 := blk_lt y8; have hzi := blk_lt x8; have HB48 := Lib.hid (HB47.out.trans (hb8.mono HB47.out.size)); clear hb8 y8 x8)
    have hb9 := HB48.out.alloc HB48.out.size (.cells #[.int .i64 19, .int .i64 0, .int .i64 0, .int .i64 d] 37)
    refine (HG3.out _ hb9).mono ?_
    rintro e w9 ⟨rfl, rfl⟩
    have HB9 := Lib.hid (HB4.out.trans (hb9.mono HB4.out.size))
    clear hb9 HG3
    go_wp2
    go_ret
    exact ⟨rfl, HB9.out⟩

set_option maxHeartbeats 8000000 in
set_option maxRecDepth 100000 in
theorem far_BN (N : Nat) (w : World) (hA : AllLaid w) (hN : N ≤ 1900) :
    Calls Tryz.prog 3 #[.int .i64 (N : Int), .bool true, .bool true] w fun e w' => e = .returned (.bool true) ∧ Below w.heap.size w w' := by
  have HA := Lib.hid hA
  clear hA
  have HAL := Lib.hid (alive_any w HA.out)
  have HI1 := Lib.hid fun W (hb : Below w.heap.size w W) => itoa_of ((N : Int) / 30) (by omega) (by omega) W (HA.out.gl.below hb HA.out.gl.sz)
  have HI2 := Lib.hid fun W (hb : Below w.heap.size w W) => itoa_of ((N : Int) % 30) (by omega) (by omega) W (HA.out.gl.below hb HA.out.gl.sz)
  have hl1 := Lib.itoa_length_le ((N : Int) / 30) (by omega) (by omega)
  have hl2 := Lib.itoa_length_le ((N : Int) % 30) (by omega) (by omega)
  obtain ⟨s1, hs1⟩ : ∃ s1, Lib.itoa ((N : Int) / 30) = s1 := ⟨_, rfl⟩
  obtain ⟨s2, hs2⟩ : ∃ s2, Lib.itoa ((N : Int) % 30) = s2 := ⟨_, rfl⟩
  rw [hs1] at HI1 hl1
  rw [hs2] at HI2 hl2
  obtain ⟨FS, hFS⟩ : ∃ FS, farS true true (N / 30) (N % 30) = FS := ⟨_, rfl⟩
  have hFl : FS.length ≤ 900 := by
    rw [← hFS]
    exact Nat.le_trans (len_of _ (far_ok true true (N / 30) (N % 30) (by omega) (by omega))) (by simp [farL])
  have hS : catBN s1 s2 = ⟨FS.toArray⟩ := by
    rw [← hs1, ← hs2, ← hFS]
    exact catBN_eq (N / 30) (N % 30)
  have hcv := fun W => Lib.run_convert_string_bytes (P := Tryz.prog) W 9 24 5 ⟨FS.toArray⟩ Tryz.underlying9 Tryz.underlying24 Tryz.underlying5
  rw [← hS] at hcv
  unfold catBN at hcv hS
  clear hs1 hs2
  have g0 : ¬ (N : Int) < 0 := by omega
  have g1 : ¬ (1900 : Int) < N := by omega
  go_enter Tryz.func3, Tryz.ntmps3
  go_wp2_with (go_at_call 5; refine HAL.out.mono ?_; rintro e w1 ⟨rfl, hb1⟩; have HB1 := Lib.hid hb1; clear hb1)
  refine (HI1.out _ HB1.out).mono ?_
  rintro e w2 ⟨rfl, hb2⟩
  have HB2 := Lib.hid (HB1.out.trans (hb2.mono HB1.out.size))
  clear hb2 HI1
  have HS := Lib.hid hS
  clear hS
  go_wp2_with (go_at_call 6; refine (HI2.out _ HB2.out).mono ?_; rintro e w3 ⟨rfl, hb3⟩; have HB3 := Lib.hid (HB2.out.trans (hb3.mono HB2.out.size)); clear hb3)
  have hlen : FS.length = 15 + (6 + s1.length + 79 + s2.length + 11) + 2 + 7 := by
    have := congrArg ByteArray.size HS.out
    simp [ByteArray.size_append] at this
    have e : (ByteArray.mk FS.toArray).size = FS.length := by simp [ByteArray.size]
    simp [ByteArray.size] at this
    omega
  rw [HS.out, ← hlen]
  have hbW : Below w3.heap.size w3 (Lib.bytesWorld w3 5 ⟨FS.toArray⟩) := Lib.bytesWorld_below _ _ _
  have hbr : Sc.BReads (Lib.bytesWorld w3 5 ⟨FS.toArray⟩) (.slice (some ⟨w3.heap.size, 0, none⟩) FS.length (grownCap w3 FS.length 0 5)) (farS true true (N / 30) (N % 30)) := by
    rw [hFS]
    refine ⟨_, _, rfl, by unfold maxLen; omega, fun _ => ⟨_, _, rfl, by rw [Lib.bytesWorld_size]; omega, fun i hi => ?_⟩⟩
    rw [Nat.zero_add, Lib.bytesWorld_cell _ _ _ _ (by simpa [ByteArray.size] using hi)]
    simp [List.getD, hi]
  have hBW : Below w.heap.size w (Lib.bytesWorld w3 5 ⟨FS.toArray⟩) := HB3.out.trans (hbW.mono HB3.out.size)
  obtain ⟨code, tp, hsay, hcall⟩ := unit_far _ true true (N / 30) (N % 30) _ (HA.out.next hBW) (by omega) (by omega) hbr
  refine hcall.mono ?_
  rintro e w4 ⟨⟨ca, cl, cc, sa, sl, sc, qa, ql, qc, rfl, hob⟩, hb4⟩
  obtain ⟨hc1, hc2, hc3⟩ := hob
  rw [show 30 * (N / 30) + N % 30 = N by omega] at hsay
  have HB4 := Lib.hid (hBW.trans (hb4.mono hBW.size))
  obtain ⟨ad1, cp1, e1, _⟩ := id hc1
  injection e1 with e1a e1 e1c
  obtain ⟨ad2, cp2, e2, _, hsc⟩ := id hc2
  injection e2 with e2a e2 e2c
  simp only [List.length_singleton] at e2
  obtain ⟨sb, so, hsa, hsb, hscell⟩ := hsc (by simp)
  have ks1 := (hscell 0 (by simp)).2
  have ks0 := (hscell 0 (by simp)).1
  simp only [List.getElem_cons_zero, Nat.zero_mul, Nat.add_zero] at ks1 ks0
  obtain ⟨ad3, cp3, e3, _⟩ := id hc3
  injection e3 with e3a e3 e3c
  simp only [List.length_nil] at e3
  unfold FarSays at hsay
  simp only [if_true] at hsay
  subst e1a e1c e2a e2 e2c e3a e3 e3c hsa
  have HC1 := Lib.hid hc1
  clear hcall hc1 hc2 hc3 hb4 hBW hbW hbr hcv hscell hsc hFS HS hlen
  by_cases hnear : N ≤ 124
  · rw [if_pos hnear] at hsay
    obtain ⟨a, d, b, hcode, ha, hcl, htp0, hd0, hd1⟩ := hsay
    have htp : tp = 4 + 2 * (N : Int) + 4 + 2 * d := by omega
    clear htp0
    subst htp
    have hwr := wrong_near (opB_ok true) hd0 hd1
    have hrg := enc_range hwr
    have HG := Lib.hid fun W (hb : Below w4.heap.size w4 W) => get_at _ a b (Isa.encI (opB true) 0 0 d) W (4 + 2 * (N : Int)) (by omega) (by omega) hrg.1 hrg.2 (by rw [← hcode]; exact HC1.out.below hb (Nat.le_refl _))
    have HD := Lib.hid fun W => dec_of hwr W
    rw [hcl] at e1
    subst e1
    simp only [opB, if_true] at HG HD
    generalize Isa.encI 18 0 0 d = x at *
    have hnear' : (N : Int) ≤ 124 := by omega
    clear HC1 hcode hcl hwr
    go_wp2_with fail
    obtain ⟨W5, hW5⟩ : ∃ X, X = (w4.alloc (.cells #[.slice ca (6 + 2 * N) cc, .slice (some ⟨sb, so, none⟩) 1 sc, .slice qa 0 qc] 28)).alloc (.cells #[.int .i64 0, .int .i64 0] 31) := ⟨_, rfl⟩
    have x0 : W5.heap[w4.heap.size]? = some (.cells #[.slice ca (6 + 2 * N) cc, .slice (some ⟨sb, so, none⟩) 1 sc, .slice qa 0 qc] 28 (0, 0)) := by rw [hW5, old2 _ _ (by go_size)]; exact new_at _ _ rfl
    have hb5 : Below w4.heap.size w4 W5 := by rw [hW5]; go_grown
    rw [← hW5]
    have HB5 := Lib.hid (HB4.out.trans (hb5.mono HB4.out.size))
    refine (HG.out W5 hb5).mono ?_
    rintro e W5' ⟨rfl, rfl⟩
    have X0 := Lib.hid x0
    clear hW5 hb5 HG x0 ks0 ks1
    go_wp2_with (go_at_call 8; refine (HD.out _).mono ?_; rintro e w6 ⟨rfl, hb6⟩; have y0 := (hb6.block _ (blk_lt X0.out)).trans X0.out; have q0 : w6.cell? ⟨w4.heap.size, 0, none⟩ = some (.slice ca (6 + 2 * N) cc) := blk_cell y0 rfl; have hz6 := blk_lt y0; have HB6 := Lib.hid (HB5.out.trans (hb6.mono HB5.out.size)); clear hb6 y0)
    go_ret
    exact ⟨rfl, HB6.out.alloc HB6.out.size _⟩
  · rw [if_neg hnear] at hsay
    obtain ⟨a, d, b, hcode, ha, hcl, htp0, hd0, hd1⟩ := hsay
    have htp : tp = 4 + 2 * (N : Int) + 6 + 2 * d := by omega
    clear htp0
    subst htp
    have hop : opB true = 18 := rfl
    have hw1 : Isa.wrongI 17 0 0 1 = 0 := wrong_near (.inl rfl) (by omega) (by omega)
    have hw2 := wrong_bra hd0 hd1
    have hr1 := enc_range hw1
    have hr2 := enc_range hw2
    have hc1 : code = a ++ (half (Isa.encI 17 0 0 1) ++ (half (Isa.encI 19 0 0 d) ++ ([0, 9] ++ b))) := by rw [hcode, hop]; simp [farB]
    have hc2 : code = (a ++ half (Isa.encI 17 0 0 1)) ++ (half (Isa.encI 19 0 0 d) ++ ([0, 9] ++ b)) := by rw [hc1, List.append_assoc]
    have hc3 : code = (a ++ half (Isa.encI 17 0 0 1) ++ half (Isa.encI 19 0 0 d)) ++ (half 9 ++ b) := by rw [hc1, show half 9 = [0, 9] from rfl]; simp
    have HG1 := Lib.hid fun W (hb : Below w4.heap.size w4 W) => get_at _ a _ (Isa.encI 17 0 0 1) W (4 + 2 * (N : Int)) (by omega) (by omega) hr1.1 hr1.2 (by rw [← hc1]; exact HC1.out.below hb (Nat.le_refl _))
    have HG2 := Lib.hid fun W (hb : Below w4.heap.size w4 W) => get_at _ (a ++ half (Isa.encI 17 0 0 1)) _ (Isa.encI 19 0 0 d) W (4 + 2 * (N : Int) + 2) (by rw [List.length_append, half_len]; omega) (by rw [List.length_append, half_len]; omega) hr2.1 hr2.2 (by rw [← hc2]; exact HC1.out.below hb (Nat.le_refl _))
    have HG3 := Lib.hid fun W (hb : Below w4.heap.size w4 W) => get_at _ (a ++ half (Isa.encI 17 0 0 1) ++ half (Isa.encI 19 0 0 d)) b 9 W (4 + 2 * (N : Int) + 4) (by rw [List.length_append, List.length_append, half_len, half_len]; omega) (by rw [List.length_append, List.length_append, half_len, half_len]; omega) (by omega) (by omega) (by rw [← hc3]; exact HC1.out.below hb (Nat.le_refl _))
    have HD1 := Lib.hid fun W => dec_of hw1 W
    have HD2 := Lib.hid fun W => dec_of hw2 W
    rw [hcl] at e1
    subst e1
    clear HC1 hcode hcl hw1 hw2 hc1 hc2 hc3
    generalize Isa.encI 17 0 0 1 = x1 at *
    generalize Isa.encI 19 0 0 d = x2 at *
    have hnear' : ¬ (N : Int) ≤ 124 := by omega
    go_wp2_with fail
    obtain ⟨W5, hW5⟩ : ∃ X, X = (w4.alloc (.cells #[.slice ca (10 + 2 * N) cc, .slice (some ⟨sb, so, none⟩) 1 sc, .slice qa 0 qc] 28)).alloc (.cells #[.int .i64 0, .int .i64 0] 31) := ⟨_, rfl⟩
    have x0 : W5.heap[w4.heap.size]? = some (.cells #[.slice ca (10 + 2 * N) cc, .slice (some ⟨sb, so, none⟩) 1 sc, .slice qa 0 qc] 28 (0, 0)) := by rw [hW5, old2 _ _ (by go_size)]; exact new_at _ _ rfl
    have hb5 : Below w4.heap.size w4 W5 := by rw [hW5]; go_grown
    rw [← hW5]
    have HB45 := Lib.hid hb5
    refine (HG1.out W5 hb5).mono ?_
    rintro e W5' ⟨rfl, rfl⟩
    have X0 := Lib.hid x0
    clear hW5 hb5 HG1 x0 ks0 ks1
    go_wp2_with (go_at_call 8; refine (HD1.out _).mono ?_; rintro e w6 ⟨rfl, hb6⟩; have y0 := (hb6.block _ (blk_lt X0.out)).trans X0.out; have q0 : w6.cell? ⟨w4.heap.size, 0, none⟩ = some (.slice ca (10 + 2 * N) cc) := blk_cell y0 rfl; have hz6 := blk_lt y0; have HB46 := Lib.hid (HB45.out.trans (hb6.mono HB45.out.size)); have Y0 := Lib.hid y0; clear hb6 y0)
    obtain ⟨W7, hW7⟩ : ∃ X, X = w6.alloc (.cells #[.int .i64 17, .int .i64 0, .int .i64 0, .int .i64 1] 37) := ⟨_, rfl⟩
    have x7 : W7.heap[w6.heap.size]? = some (.cells #[.int .i64 17, .int .i64 0, .int .i64 0, .int .i64 1] 37 (0, 0)) := by rw [hW7]; exact new_at _ _ rfl
    have y7 : W7.heap[w4.heap.size]? = some (.cells #[.slice ca (10 + 2 * N) cc, .slice (some ⟨sb, so, none⟩) 1 sc, .slice qa 0 qc] 28 (0, 0)) := by rw [hW7, old2 _ _ hz6]; exact Y0.out
    have hb7 : Below w4.heap.size w4 W7 := by rw [hW7]; exact HB46.out.alloc HB46.out.size _
    rw [← hW7]
    have HB47 := Lib.hid hb7
    refine (HG2.out W7 hb7).mono ?_
    rintro e W7' ⟨rfl, rfl⟩
    generalize w6.heap.size = gi at *
    have X7 := Lib.hid x7
    have Y7 := Lib.hid y7
    clear hW7 hb7 HG2 x7 y7 q0 Y0 X0
    go_wp2_with (go_at_call 8; refine (HD2.out _).mono ?_; rintro e w8 ⟨rfl, hb8⟩; have y8 := (hb8.block _ (blk_lt Y7.out)).trans Y7.out; have x8 := (hb8.block _ (blk_lt X7.out)).trans X7.out; have q8 : w8.cell? ⟨w4.heap.size, 0, none⟩ = some (.slice ca (10 + 2 * N) cc) := blk_cell y8 rfl; have p0 : w8.cell? ⟨gi, 0, none⟩ = some (.int .i64 17) := blk_cell x8 rfl; have p3 : w8.cell? ⟨gi, 3, none⟩ = some (.int .i64 1) := blk_cell x8 rfl; have hz8 := blk_lt y8; have hzi := blk_lt x8; have HB48 := Lib.hid (HB47.out.trans (hb8.mono HB47.out.size)); clear hb8 y8 x8)
    have hb9 := HB48.out.alloc HB48.out.size (.cells #[.int .i64 19, .int .i64 0, .int .i64 0, .int .i64 d] 37)
    refine (HG3.out _ hb9).mono ?_
    rintro e w9 ⟨rfl, rfl⟩
    have HB9 := Lib.hid (HB4.out.trans (hb9.mono HB4.out.size))
    clear hb9 HG3
    go_wp2
    go_ret
    exact ⟨rfl, HB9.out⟩

set_option maxHeartbeats 8000000 in
set_option maxRecDepth 100000 in
theorem far_any (n : Int) (back nt : Bool) (w : World) (hA : AllLaid w) :
    Calls Tryz.prog 3 #[.int .i64 n, .bool back, .bool nt] w fun e w' => e = .returned (.bool true) ∧ Below w.heap.size w w' := by
  by_cases g0 : n < 0
  · have HAL := Lib.hid (alive_any w hA)
    clear hA
    go_enter Tryz.func3, Tryz.ntmps3
    go_wp2_with (go_at_call 5; refine HAL.out.mono ?_; rintro e w1 ⟨rfl, hb1⟩; have HB1 := Lib.hid hb1; clear hb1)
    go_ret
    exact ⟨rfl, HB1.out⟩
  · by_cases g1 : 1900 < n
    · have HAL := Lib.hid (alive_any w hA)
      clear hA
      go_enter Tryz.func3, Tryz.ntmps3
      go_wp2_with (go_at_call 5; refine HAL.out.mono ?_; rintro e w1 ⟨rfl, hb1⟩; have HB1 := Lib.hid hb1; clear hb1)
      go_ret
      exact ⟨rfl, HB1.out⟩
    · obtain ⟨N, rfl⟩ := Int.eq_ofNat_of_zero_le (Int.not_lt.1 g0)
      cases back
      · cases nt
        · exact far_FT N w hA (by omega)
        · exact far_FN N w hA (by omega)
      · cases nt
        · exact far_BT N w hA (by omega)
        · exact far_BN N w hA (by omega)

end Go.Proofs.YtagkmgdjkailkaaGreatDoor
