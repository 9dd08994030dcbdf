/- Macro and asm: an expression that is a sign and a number; such operands. asm: an operand that is a negative number. Blocks: what stands from a head up to its end, where that is .rept, one line, .endr. Macro: the number of one token; a block's lines again and again. Macro: a block of .rept, of one line, done. Macro: a step at .rept. Macro: Short of lines some of which are blocks of .rept, each of one line. Macro: Short of lines some of which are blocks of .rept, each of one line. -/
import Derived.Test.YtjmjhbdlbmnllaaGreatDoorPut36
import Derived.Test.YtjmjhbdlbmnllaaGreatDoorPut33
import Derived.Test.YtjmjhbdlbmnllaaGreatDoorPut30
namespace Go.Proofs.YtjmjhbdlbmnllaaGreatDoor
open Go.RowKit

set_option maxHeartbeats 4000000 in
theorem expression_neg (b o cap : Nat) (n : Int) (t : ByteArray) (w : World) (hL : Xp.KLaid w) (hb : b < w.heap.size) (_ : cap + 2 ≤ maxLen)
    (c0 : w.cell? ⟨b, o, none⟩ = some (.int .i64 3)) (c1 : w.cell? ⟨b, o + 1, none⟩ = some (.int .i64 0)) (c2 : w.cell? ⟨b, o + 2, none⟩ = some (.string ⟨#[45]⟩)) (c3 : w.cell? ⟨b, o + 3, none⟩ = some (.pointer none))
    (e0 : w.cell? ⟨b, o + 4, none⟩ = some (.int .i64 2)) (e1 : w.cell? ⟨b, o + 4 + 1, none⟩ = some (.int .i64 n)) (e2 : w.cell? ⟨b, o + 4 + 2, none⟩ = some (.string t)) (e3 : w.cell? ⟨b, o + 4 + 3, none⟩ = some (.pointer none)) :
    Calls Tryz.prog 166 #[.slice (some ⟨b, o, none⟩) 2 (cap + 2), .slice none 0 0] w fun r w' => (∃ g q, r = .returned (.pointer (some ⟨g, 0, none⟩)) ∧ PR w' g q ⟨#[]⟩ true (.slice none 0 0) false 0 true ⟨#[]⟩ (wrap32 (-wrap32 n))) ∧ Below w.heap.size w w' := by
  have hmm : ∀ w, (Instr.makeMap 277 none).run Tryz.prog w = .ok (.map (some w.heap.size)) (w.alloc (.map #[] 0)) := fun w => rfl
  have HL := Lib.hid hL
  have K0 := Lib.hid e0
  have K1 := Lib.hid e1
  have K2 := Lib.hid e2
  have K3 := Lib.hid e3
  clear hL e0 e1 e2 e3
  go_enter Tryz.func166, Tryz.ntmps166
  go_wp2_with fail
  refine (from_any ⟨#[]⟩ false none 0 0 _).mono ?_
  rintro e w1 ⟨⟨g, q, rfl, hg, hq, hp1⟩, hb1⟩
  have hB1 : Below w.heap.size w w1 := Below.trans (by go_grown) (hb1.mono (by go_size))
  have d0 := (hB1.cell (by show b < w.heap.size; exact hb)).trans c0
  have d1 := (hB1.cell (by show b < w.heap.size; exact hb)).trans c1
  have d2 := (hB1.cell (by show b < w.heap.size; exact hb)).trans c2
  have d3 := (hB1.cell (by show b < w.heap.size; exact hb)).trans c3
  have hb' : b < w1.heap.size := Nat.lt_of_lt_of_le hb hB1.size
  have HP1 := Lib.hid hp1
  have HB1 := Lib.hid hB1
  have hg1 := blk_lt hp1.pt
  have hq1 := blk_lt hp1.ch
  simp only [World.size_alloc] at hg hq
  clear hb1 hB1 hp1 c0 c1 c2 c3
  go_wp2_with fail
  have hr2 : (w1.alloc (.cells #[.slice (some ⟨b, o, none⟩) 2 (cap + 2), .pointer (some ⟨g, 0, none⟩), .pointer none, .string ⟨#[]⟩, .bool false] 284)).heap[w1.heap.size]? = some (.cells #[.slice (some ⟨b, o, none⟩) 2 (cap + 2), .pointer (some ⟨g, 0, none⟩), .pointer none, .string ⟨#[]⟩, .bool false] 284 (0, 0)) := new_at _ _ rfl
  have hb2 : Below w1.heap.size w1 (w1.alloc (.cells #[.slice (some ⟨b, o, none⟩) 2 (cap + 2), .pointer (some ⟨g, 0, none⟩), .pointer none, .string ⟨#[]⟩, .bool false] 284)) := oalloc _ _
  generalize w1.alloc (.cells #[.slice (some ⟨b, o, none⟩) 2 (cap + 2), .pointer (some ⟨g, 0, none⟩), .pointer none, .string ⟨#[]⟩, .bool false] 284) = W2 at *
  replace d0 := (hb2.cell (by show b < w1.heap.size; exact hb')).trans d0
  replace d1 := (hb2.cell (by show b < w1.heap.size; exact hb')).trans d1
  replace d2 := (hb2.cell (by show b < w1.heap.size; exact hb')).trans d2
  replace d3 := (hb2.cell (by show b < w1.heap.size; exact hb')).trans d3
  have hz2 := blk_lt hr2
  have x0 : W2.cell? ⟨w1.heap.size, 0, none⟩ = some (.slice (some ⟨b, o, none⟩) 2 (cap + 2)) := blk_cell hr2 rfl
  have x1 : W2.cell? ⟨w1.heap.size, 1, none⟩ = some (.pointer (some ⟨g, 0, none⟩)) := blk_cell hr2 rfl
  have hpt := (HP1.out.go hb2).pt
  have x6 : W2.cell? ⟨g, 6, none⟩ = some (.int .i64 0) := blk_cell hpt rfl
  have HR2 := Lib.hid hr2
  have HB2 : Hid (Below w.heap.size w W2) := HB1.out.trans (hb2.mono (by have := HB1.out.size; omega))
  have HRD := Lib.hid (rread_no w1.heap.size 0 b o 1 (cap + 2) g W2 x0 x1 x6)
  have HAD := Lib.hid fun W (hb : Below W2.heap.size W2 W) => add_sign g q false W (KL.below (KL.below HL.out HB2.out) hb) ((HP1.out.go hb2).go hb)
  have hsz := HB1.out.size
  clear hr2 hb2 hpt HB1
  unfold tokV at HAD
  refine wp_loop_rounds 3 ?_
  rw [rounds_succ]
  go_wp2_with (go_at_call 197; refine HRD.out.mono ?_; rintro e w' ⟨rfl, rfl⟩)
  go_region_with (go_at_call 198; refine (HAD.out _ (Below.refl _ _).drew).mono ?_; rintro e w3 ⟨rfl, hp3, hf3⟩; have hr3 := (hf3.block _ hz2 (by omega) (by omega)).trans HR2.out; have y0 : w3.cell? ⟨w1.heap.size, 0, none⟩ = some (.slice (some ⟨b, o, none⟩) 2 (cap + 2)) := blk_cell hr3 rfl; have y1 : w3.frozen? ⟨w1.heap.size, 0, none⟩ = false := blk_froz hr3; have y2 : w3.cell? ⟨w1.heap.size, 1, none⟩ = some (.pointer (some ⟨g, 0, none⟩)) := blk_cell hr3 rfl; have hz3 := blk_lt hr3; have HR3 := Lib.hid hr3; have HP3 := Lib.hid hp3; have HF3 := Lib.hid hf3; clear hr3 hp3 hf3)
  all_goals go_wp2_with fail
  all_goals
    have hr4 := blk_set (i := 0) (v := .slice (some ⟨b, o + 4, none⟩) 1 (cap + 1)) HR3.out
    have hp4 : PR (w3.setCell ⟨w1.heap.size, 0, none⟩ (.slice (some ⟨b, o + 4, none⟩) 1 (cap + 1))) g q ⟨#[45]⟩ false (.slice none 0 0) false 0 false ⟨#[]⟩ 0 := ⟨by rw [Below.heap_setCell _ _ _ _ (by show g ≠ w1.heap.size; omega)]; exact HP3.out.pt, by rw [Below.heap_setCell _ _ _ _ (by show q ≠ w1.heap.size; omega)]; exact HP3.out.ch⟩
    have hb4 : Below w.heap.size w (w3.setCell ⟨w1.heap.size, 0, none⟩ (.slice (some ⟨b, o + 4, none⟩) 1 (cap + 1))) := (HB2.out.trans ((Below.refl _ _).drew.trans (HF3.out.to (by omega) (by omega) (by show w.heap.size ≤ W2.heap.size; omega)))).setCell (by omega) _
    generalize w3.setCell ⟨w1.heap.size, 0, none⟩ (.slice (some ⟨b, o + 4, none⟩) 1 (cap + 1)) = W4 at *
    clear y0 y1 y2 hz3 HR3 HP3 HF3 d0 d1 d2 d3 x0 x1 x6 HRD HAD HR2 hz2
    have d0 := (hb4.cell (by show b < w.heap.size; exact hb)).trans K0.out
    have d1 := (hb4.cell (by show b < w.heap.size; exact hb)).trans K1.out
    have d2 := (hb4.cell (by show b < w.heap.size; exact hb)).trans K2.out
    have d3 := (hb4.cell (by show b < w.heap.size; exact hb)).trans K3.out
    have hb'' : b < W4.heap.size := Nat.lt_of_lt_of_le hb hb4.size
    have hz4 := blk_lt hr4
    have x0 : W4.cell? ⟨w1.heap.size, 0, none⟩ = some (.slice (some ⟨b, o + 4, none⟩) 1 (cap + 1)) := blk_cell hr4 rfl
    have x1 : W4.cell? ⟨w1.heap.size, 1, none⟩ = some (.pointer (some ⟨g, 0, none⟩)) := blk_cell hr4 rfl
    have x6 : W4.cell? ⟨g, 6, none⟩ = some (.int .i64 0) := blk_cell hp4.pt rfl
    have HRD := Lib.hid (rread_no w1.heap.size 0 b (o + 4) 0 (cap + 1) g W4 x0 x1 x6)
    have HAD := Lib.hid fun W (hb : Below W4.heap.size W4 W) => add_num2 g q false n t W (KL.below (KL.below HL.out hb4) hb) (hp4.go hb)
    have HR4 := Lib.hid hr4
    have HB4 := Lib.hid hb4
    unfold tokV at HAD
    clear hr4 hp4 hb4
    rw [rounds_succ]
    go_wp2_with (go_at_call 197; refine HRD.out.mono ?_; rintro e w' ⟨rfl, rfl⟩)
    go_region_with (go_at_call 198; refine (HAD.out _ (Below.refl _ _).drew).mono ?_; rintro e w5 ⟨rfl, hp5, hf5⟩; have hr5 := (hf5.block _ hz4 (by omega) (by omega)).trans HR4.out; have y0 : w5.cell? ⟨w1.heap.size, 0, none⟩ = some (.slice (some ⟨b, o + 4, none⟩) 1 (cap + 1)) := blk_cell hr5 rfl; have y1 : w5.frozen? ⟨w1.heap.size, 0, none⟩ = false := blk_froz hr5; have y2 : w5.cell? ⟨w1.heap.size, 1, none⟩ = some (.pointer (some ⟨g, 0, none⟩)) := blk_cell hr5 rfl; have hz5 := blk_lt hr5; have HR5 := Lib.hid hr5; have HP5 := Lib.hid hp5; have HF5 := Lib.hid hf5; clear hr5 hp5 hf5)
  all_goals go_wp2_with fail
  all_goals
    rw [rounds_succ]
    go_wp2_with (go_at_call 197; refine (rread_yes _ _ _ _ _ (blk_cell (blk_set HR5.out) rfl)).mono ?_; rintro e w' ⟨rfl, rfl⟩)
    go_returns
    refine ⟨⟨g, q, rfl, ?_⟩, ?_⟩
    · exact ⟨by rw [Below.heap_setCell _ _ _ _ (by show g ≠ w1.heap.size; omega)]; exact HP5.out.pt, by rw [Below.heap_setCell _ _ _ _ (by show q ≠ w1.heap.size; omega)]; exact HP5.out.ch⟩
    · exact (HB4.out.trans ((Below.refl _ _).drew.trans (HF5.out.to (by omega) (by omega) (by show w.heap.size ≤ W4.heap.size; have := HB4.out.size; omega)))).setCell (by omega) _

/-- The value of such a text. -/
theorem mfirst_neg (v : Value) (n : Int) (t : ByteArray) (w : World) (hL : Xp.KLaid w) (h : PReads w v [⟨3, 0, ⟨#[45]⟩⟩, ⟨2, n, t⟩]) :
    Calls Tryz.prog 173 #[v, .slice none 0 0] w fun r w' => r = .returned (.tuple #[.agg #[.string ⟨#[]⟩, .int .i64 (wrap32 (-wrap32 n))], .bool true, .int .i64 0]) ∧ Below w.heap.size w w' := by
  obtain ⟨ad, cap, rfl, hc, hm, h⟩ := h
  obtain ⟨b, o, rfl, hb, hcell⟩ := h (by simp)
  have c := hcell 0 (by simp)
  have d := hcell 1 (by simp)
  simp only [Nat.zero_mul, Nat.one_mul, Nat.add_zero, List.getElem_cons_zero, List.getElem_cons_succ] at c d
  obtain ⟨c0, c1, c2, c3⟩ := c
  obtain ⟨e0, e1, e2, e3⟩ := d
  obtain ⟨cap, rfl⟩ : ∃ k, cap = k + 2 := ⟨cap - 2, by simp at hc; omega⟩
  have HE := Lib.hid fun W (hb' : Below w.heap.size w W) => expression_neg b o cap n t W (KL.below hL hb') (Nat.lt_of_lt_of_le hb hb'.size) hm (by rw [hb'.cell (by exact hb)]; exact c0) (by rw [hb'.cell (by exact hb)]; exact c1) (by rw [hb'.cell (by exact hb)]; exact c2) (by rw [hb'.cell (by exact hb)]; exact c3) (by rw [hb'.cell (by exact hb)]; exact e0) (by rw [hb'.cell (by exact hb)]; exact e1) (by rw [hb'.cell (by exact hb)]; exact e2) (by rw [hb'.cell (by exact hb)]; exact e3)
  clear hL hcell h c0 c1 c2 c3 e0 e1 e2 e3
  generalize wrap32 (-wrap32 n) = m at *
  simp only [List.length_cons, List.length_nil]
  go_enter Tryz.func173, Tryz.ntmps173
  go_wp2_with fail
  refine (HE.out _ (oalloc _ _)).mono ?_
  rintro e w1 ⟨⟨g, q, rfl, hp1⟩, hb1⟩
  obtain ⟨hB1, hz1, xr⟩ := box_keep hb1
  have HB1 := Lib.hid hB1
  have XR := Lib.hid xr
  have HF := Lib.hid fun W (hb : Below w1.heap.size w1 W) => first_one g q _ ⟨#[]⟩ m 0 W (hp1.go hb)
  have HP1 := Lib.hid hp1
  clear hb1 hB1 xr hp1 HE
  go_wp2_with (go_at_call 201; refine (HF.out _ (Below.refl _ _)).mono ?_; rintro e w2 ⟨rfl, hb2⟩; have HB2 := Lib.hid (HB1.out.trans (hb2.mono (by omega))); have HP2 := Lib.hid (HP1.out.go hb2); have xr2 := (hb2.block _ hz1).trans XR.out; obtain ⟨⟨u0, u1⟩, f0, f1⟩ := var2_of xr2; have hz2 := blk_lt xr2; clear hb2 xr2)
  have HE6 : Hid (∀ W, Below w2.heap.size w2 W → Calls Tryz.prog 203 #[.pointer (some ⟨g, 0, none⟩)] W fun r w' => r = .returned (.int .i64 0) ∧ w' = W) := fun W hb => err_any g 0 W (blk_cell (HP2.out.go hb).pt rfl)
  clear HP1 HF XR
  go_region_with (go_at_call 203; refine (HE6.out _ (by go_grown)).mono ?_; rintro e w3 ⟨rfl, rfl⟩)
  all_goals
    go_wp2
    refine bodyPost_ret (v := .tuple #[.agg #[.string ⟨#[]⟩, .int .i64 m], .bool true, .int .i64 0]) (by simp [results, Tryz.results173, go_sem, World.cell?_alloc_lt, hz2, u0, u1]) rfl ⟨rfl, ?_⟩
    have hb := HB2.out
    go_grown

end Go.Proofs.YtjmjhbdlbmnllaaGreatDoor

namespace Go.Proofs.YtjmjhbdlbmnllaaGreatDoor
open Go.RowKit

theorem aexpr_neg (gu : Nat) (kd : ByteArray) (v : Value) (n : Int) (t : ByteArray) (w : World) (hL : Xp.KLaid w) (h : PReads w v [⟨3, 0, ⟨#[45]⟩⟩, ⟨2, n, t⟩]) (c0 : w.cell? ⟨gu, 0, none⟩ = some (.slice none 0 0)) :
    Calls Tryz.prog 141 #[.pointer (some ⟨gu, 0, none⟩), .string kd, v] w fun r w' => r = .returned (.tuple #[opV kd 0 ⟨#[]⟩ (wrap32 (-wrap32 n)), .int .i64 0]) ∧ Below w.heap.size w w' := by
  have HM := Lib.hid fun W (hb : Below w.heap.size w W) => mfirst_neg v n t W (KL.below hL hb) (h.below hb (Nat.le_refl _))
  have hg : gu < w.heap.size := World.block_lt_of_cell? w _ c0
  obtain ⟨ad, cap, rfl, _⟩ := h
  clear hL
  generalize wrap32 (-wrap32 n) = m at *
  simp only [List.length_cons, List.length_nil] at *
  unfold opV
  go_enter Tryz.func141, Tryz.ntmps141
  go_wp2_with fail
  refine (HM.out _ (oalloc _ _)).mono ?_
  rintro e w1 ⟨rfl, hb1⟩
  obtain ⟨hB1, hz1, xr⟩ := box_keep hb1
  obtain ⟨⟨⟨u0, u1⟩, u2, u3⟩, ⟨f0, f1⟩, f2, f3⟩ := var4_of xr
  have HB1 := Lib.hid hB1
  have XR := Lib.hid xr
  clear hb1 hB1 xr HM
  go_wp2_with fail
  exact bodyPost_ret (v := .tuple #[.agg #[.string kd, .int .i64 0, .string ⟨#[]⟩, .int .i64 m], .int .i64 0]) (by simp [results, Tryz.results141, go_sem, World.cell?_alloc_lt, hz1, u0, u1, u2, u3]) rfl ⟨rfl, ((((HB1.out.setCell (Nat.le_refl _) _).setCell (Nat.le_refl _) _).setCell (Nat.le_refl _) _).setCell (Nat.le_refl _) _).alloc (by simp; omega) _⟩

theorem operand_neg (gu : Nat) (v : Value) (sn : Int) (n : Int) (t : ByteArray) (w : World) (hL : Xp.KLaid w) (h : PReads w v [⟨3, sn, ⟨#[35]⟩⟩, ⟨3, 0, ⟨#[45]⟩⟩, ⟨2, n, t⟩]) (c0 : w.cell? ⟨gu, 0, none⟩ = some (.slice none 0 0)) :
    Calls Tryz.prog 99 #[.pointer (some ⟨gu, 0, none⟩), v] w fun r w' => r = .returned (.tuple #[opV ⟨#[35]⟩ 0 ⟨#[]⟩ (wrap32 (-wrap32 n)), .int .i64 0]) ∧ Below w.heap.size w w' := by
  have hg : gu < w.heap.size := World.block_lt_of_cell? w _ c0
  have HN := Lib.hid fun W (hb : Below w.heap.size w W) => next_any v [⟨3, sn, ⟨#[35]⟩⟩, ⟨3, 0, ⟨#[45]⟩⟩, ⟨2, n, t⟩] W (h.below hb (Nat.le_refl _))
  have HE0 := Lib.hid fun v' W (hb : Below w.heap.size w W) (hv : PReads W v' [⟨3, 0, ⟨#[45]⟩⟩, ⟨2, n, t⟩]) => aexpr_neg gu ⟨#[35]⟩ v' n t W (KL.below hL hb) hv (by rw [hb.cell (by exact hg)]; exact c0)
  have HST : Hid (∀ W, Calls Tryz.prog 93 #[tokV 3 sn ⟨#[35]⟩, .string ⟨#[35]⟩] W fun r w' => r = .returned (.bool true) ∧ Below W.heap.size W w') := fun W => by
    have := asign_any 3 sn ⟨#[35]⟩ ⟨#[35]⟩ W
    rwa [show ((3 : Int) == 3 && (⟨#[35]⟩ : ByteArray).toList == (⟨#[35]⟩ : ByteArray).toList) = true by simp] at this
  obtain ⟨ad, cap, rfl, _⟩ := h
  clear hL
  generalize wrap32 (-wrap32 n) = m at *
  unfold opV at *
  unfold Tk.V tokV headT at *
  simp only [List.length_cons, List.length_nil] at *
  go_enter Tryz.func99, Tryz.ntmps99
  go_wp2_with fail
  refine (HN.out _ (oalloc _ _)).mono ?_
  rintro e w1 ⟨⟨v', rfl, hv⟩, hb1⟩
  obtain ⟨ad', cap', rfl, _⟩ := id hv
  obtain ⟨hB1, hz1, xr⟩ := box_keep hb1
  simp only [List.tail_cons, List.length_cons, List.length_nil] at *
  have HPV := Lib.hid hv
  have HBV := Lib.hid hb1
  clear hb1 hv
  go_wp2_with fail
  refine (HST.out _).mono ?_
  rintro e w2 ⟨rfl, hb2⟩
  obtain ⟨hB2, hz2, xt⟩ := box_keep hb2
  have t0 : w2.cell? ⟨w1.heap.size, 0, none⟩ = some (.int .i64 3) := blk_cell xt rfl
  have t1 : w2.cell? ⟨w1.heap.size, 1, none⟩ = some (.int .i64 sn) := blk_cell xt rfl
  have t2 : w2.cell? ⟨w1.heap.size, 2, none⟩ = some (.string ⟨#[35]⟩) := blk_cell xt rfl
  replace xr := (hB2.block _ (by omega)).trans xr
  have HB := Lib.hid (hB1.trans (hB2.mono (by omega)))
  replace HBV := Lib.hid (HBV.out.trans (hB2.mono HBV.out.size))
  clear hb2 hB2 hB1
  have XR := Lib.hid xr
  clear xr xt
  go_wp2_with fail
  refine (HE0.out _ _ HB.out (HPV.out.below HBV.out (Nat.le_refl _))).mono ?_
  rintro e w6 ⟨rfl, hb6⟩
  obtain ⟨⟨⟨u0, u1⟩, u2, u3⟩, ⟨f0, f1⟩, f2, f3⟩ := var4_of ((hb6.block _ (by omega)).trans XR.out)
  have hz6 : w.heap.size < w6.heap.size := Nat.lt_of_lt_of_le (by omega) hb6.size
  replace HB := Lib.hid (HB.out.trans (hb6.mono (by omega)))
  clear hb6
  go_wp2_with fail
  exact bodyPost_ret (v := .tuple #[.agg #[.string ⟨#[35]⟩, .int .i64 0, .string ⟨#[]⟩, .int .i64 m], .int .i64 0]) (by simp [results, Tryz.results99, go_sem, u0, u1, u2, u3]) rfl ⟨rfl, (((HB.out.setCell (Nat.le_refl _) _).setCell (Nat.le_refl _) _).setCell (Nat.le_refl _) _).setCell (Nat.le_refl _) _⟩

end Go.Proofs.YtjmjhbdlbmnllaaGreatDoor

namespace Go.Proofs.YtjmjhbdlbmnllaaGreatDoor
open Go.RowKit

end Go.Proofs.YtjmjhbdlbmnllaaGreatDoor

namespace Go.Proofs.YtjmjhbdlbmnllaaGreatDoor
open Go.RowKit

end Go.Proofs.YtjmjhbdlbmnllaaGreatDoor

namespace Go.Proofs.YtjmjhbdlbmnllaaGreatDoor
open Go.RowKit

end Go.Proofs.YtjmjhbdlbmnllaaGreatDoor

namespace Go.Proofs.YtjmjhbdlbmnllaaGreatDoor
open Go.RowKit

end Go.Proofs.YtjmjhbdlbmnllaaGreatDoor

namespace Go.Proofs.YtjmjhbdlbmnllaaGreatDoor
open Go.RowKit

end Go.Proofs.YtjmjhbdlbmnllaaGreatDoor

namespace Go.Proofs.YtjmjhbdlbmnllaaGreatDoor
open Go.RowKit

end Go.Proofs.YtjmjhbdlbmnllaaGreatDoor
