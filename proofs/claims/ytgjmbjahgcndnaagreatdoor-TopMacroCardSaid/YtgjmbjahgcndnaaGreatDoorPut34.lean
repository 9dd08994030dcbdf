/- Macro and asm: an expression that is a sign and a number; such operands. asm: an operand that is a negative number. Blocks: what stands from a head up to its end, where that is .rept, one line, .endr. Macro: the number of one token; a block's lines again and again. Macro: a block of .rept, of one line, done. Macro: a step at .rept. Macro: Short of lines some of which are blocks of .rept, each of one line. Macro: Short of lines some of which are blocks of .rept, each of one line. Texts some of whose parts are inner texts, in memory; what stands between commas of them; operands. Blocks: what stands from .Macro up to its .endm, where that is one line. -/
import Derived.Test.YtgjmbjahgcndnaaGreatDoorPut33
import Derived.Test.YtgjmbjahgcndnaaGreatDoorPut32
import Derived.Test.YtgjmbjahgcndnaaGreatDoorPut31
import Derived.Test.YtgjmbjahgcndnaaGreatDoorPut30
namespace Go.Proofs.YtgjmbjahgcndnaaGreatDoor
open Go.RowKit

set_option maxHeartbeats 4000000 in
theorem expression_neg (b o cap : Nat) (n : Int) (t : ByteArray) (w : World) (hL : Xp.KLaid w) (hb : b < w.heap.size) (_ : cap + 2 ≤ maxLen)
    (c0 : w.cell? ⟨b, o, none⟩ = some (.int .i64 3)) (c1 : w.cell? ⟨b, o + 1, none⟩ = some (.int .i64 0)) (c2 : w.cell? ⟨b, o + 2, none⟩ = some (.string ⟨#[45]⟩)) (c3 : w.cell? ⟨b, o + 3, none⟩ = some (.pointer none))
    (e0 : w.cell? ⟨b, o + 4, none⟩ = some (.int .i64 2)) (e1 : w.cell? ⟨b, o + 4 + 1, none⟩ = some (.int .i64 n)) (e2 : w.cell? ⟨b, o + 4 + 2, none⟩ = some (.string t)) (e3 : w.cell? ⟨b, o + 4 + 3, none⟩ = some (.pointer none)) :
    Calls Tryz.prog 187 #[.slice (some ⟨b, o, none⟩) 2 (cap + 2), .slice none 0 0] w fun r w' => (∃ g q, r = .returned (.pointer (some ⟨g, 0, none⟩)) ∧ PR w' g q ⟨#[]⟩ true (.slice none 0 0) false 0 true ⟨#[]⟩ (wrap32 (-wrap32 n))) ∧ Below w.heap.size w w' := by
  have hmm : ∀ w, (Instr.makeMap 318 none).run Tryz.prog w = .ok (.map (some w.heap.size)) (w.alloc (.map #[] 0)) := fun w => rfl
  have HL := Lib.hid hL
  have K0 := Lib.hid e0
  have K1 := Lib.hid e1
  have K2 := Lib.hid e2
  have K3 := Lib.hid e3
  clear hL e0 e1 e2 e3
  go_enter Tryz.func187, Tryz.ntmps187
  go_wp2_with fail
  refine (from_any ⟨#[]⟩ false none 0 0 _).mono ?_
  rintro e w1 ⟨⟨g, q, rfl, hg, hq, hp1⟩, hb1⟩
  have hB1 : Below w.heap.size w w1 := Below.trans (by go_grown) (hb1.mono (by go_size))
  have d0 := (hB1.cell (by show b < w.heap.size; exact hb)).trans c0
  have d1 := (hB1.cell (by show b < w.heap.size; exact hb)).trans c1
  have d2 := (hB1.cell (by show b < w.heap.size; exact hb)).trans c2
  have d3 := (hB1.cell (by show b < w.heap.size; exact hb)).trans c3
  have hb' : b < w1.heap.size := Nat.lt_of_lt_of_le hb hB1.size
  have HP1 := Lib.hid hp1
  have HB1 := Lib.hid hB1
  have hg1 := blk_lt hp1.pt
  have hq1 := blk_lt hp1.ch
  simp only [World.size_alloc] at hg hq
  clear hb1 hB1 hp1 c0 c1 c2 c3
  go_wp2_with fail
  have hr2 : (w1.alloc (.cells #[.slice (some ⟨b, o, none⟩) 2 (cap + 2), .pointer (some ⟨g, 0, none⟩), .pointer none, .string ⟨#[]⟩, .bool false] 325)).heap[w1.heap.size]? = some (.cells #[.slice (some ⟨b, o, none⟩) 2 (cap + 2), .pointer (some ⟨g, 0, none⟩), .pointer none, .string ⟨#[]⟩, .bool false] 325 (0, 0)) := new_at _ _ rfl
  have hb2 : Below w1.heap.size w1 (w1.alloc (.cells #[.slice (some ⟨b, o, none⟩) 2 (cap + 2), .pointer (some ⟨g, 0, none⟩), .pointer none, .string ⟨#[]⟩, .bool false] 325)) := oalloc _ _
  generalize w1.alloc (.cells #[.slice (some ⟨b, o, none⟩) 2 (cap + 2), .pointer (some ⟨g, 0, none⟩), .pointer none, .string ⟨#[]⟩, .bool false] 325) = W2 at *
  replace d0 := (hb2.cell (by show b < w1.heap.size; exact hb')).trans d0
  replace d1 := (hb2.cell (by show b < w1.heap.size; exact hb')).trans d1
  replace d2 := (hb2.cell (by show b < w1.heap.size; exact hb')).trans d2
  replace d3 := (hb2.cell (by show b < w1.heap.size; exact hb')).trans d3
  have hz2 := blk_lt hr2
  have x0 : W2.cell? ⟨w1.heap.size, 0, none⟩ = some (.slice (some ⟨b, o, none⟩) 2 (cap + 2)) := blk_cell hr2 rfl
  have x1 : W2.cell? ⟨w1.heap.size, 1, none⟩ = some (.pointer (some ⟨g, 0, none⟩)) := blk_cell hr2 rfl
  have hpt := (HP1.out.go hb2).pt
  have x6 : W2.cell? ⟨g, 6, none⟩ = some (.int .i64 0) := blk_cell hpt rfl
  have HR2 := Lib.hid hr2
  have HB2 : Hid (Below w.heap.size w W2) := HB1.out.trans (hb2.mono (by have := HB1.out.size; omega))
  have HRD := Lib.hid (rread_no w1.heap.size 0 b o 1 (cap + 2) g W2 x0 x1 x6)
  have HAD := Lib.hid fun W (hb : Below W2.heap.size W2 W) => add_sign g q false W (KL.below (KL.below HL.out HB2.out) hb) ((HP1.out.go hb2).go hb)
  have hsz := HB1.out.size
  clear hr2 hb2 hpt HB1
  unfold tokV at HAD
  refine wp_loop_rounds 3 ?_
  rw [rounds_succ]
  go_wp2_with (go_at_call 219; refine HRD.out.mono ?_; rintro e w' ⟨rfl, rfl⟩)
  go_region_with (go_at_call 220; refine (HAD.out _ (Below.refl _ _).drew).mono ?_; rintro e w3 ⟨rfl, hp3, hf3⟩; have hr3 := (hf3.block _ hz2 (by omega) (by omega)).trans HR2.out; have y0 : w3.cell? ⟨w1.heap.size, 0, none⟩ = some (.slice (some ⟨b, o, none⟩) 2 (cap + 2)) := blk_cell hr3 rfl; have y1 : w3.frozen? ⟨w1.heap.size, 0, none⟩ = false := blk_froz hr3; have y2 : w3.cell? ⟨w1.heap.size, 1, none⟩ = some (.pointer (some ⟨g, 0, none⟩)) := blk_cell hr3 rfl; have hz3 := blk_lt hr3; have HR3 := Lib.hid hr3; have HP3 := Lib.hid hp3; have HF3 := Lib.hid hf3; clear hr3 hp3 hf3)
  all_goals go_wp2_with fail
  all_goals
    have hr4 := blk_set (i := 0) (v := .slice (some ⟨b, o + 4, none⟩) 1 (cap + 1)) HR3.out
    have hp4 : PR (w3.setCell ⟨w1.heap.size, 0, none⟩ (.slice (some ⟨b, o + 4, none⟩) 1 (cap + 1))) g q ⟨#[45]⟩ false (.slice none 0 0) false 0 false ⟨#[]⟩ 0 := ⟨by rw [Below.heap_setCell _ _ _ _ (by show g ≠ w1.heap.size; omega)]; exact HP3.out.pt, by rw [Below.heap_setCell _ _ _ _ (by show q ≠ w1.heap.size; omega)]; exact HP3.out.ch⟩
    have hb4 : Below w.heap.size w (w3.setCell ⟨w1.heap.size, 0, none⟩ (.slice (some ⟨b, o + 4, none⟩) 1 (cap + 1))) := (HB2.out.trans ((Below.refl _ _).drew.trans (HF3.out.to (by omega) (by omega) (by show w.heap.size ≤ W2.heap.size; omega)))).setCell (by omega) _
    generalize w3.setCell ⟨w1.heap.size, 0, none⟩ (.slice (some ⟨b, o + 4, none⟩) 1 (cap + 1)) = W4 at *
    clear y0 y1 y2 hz3 HR3 HP3 HF3 d0 d1 d2 d3 x0 x1 x6 HRD HAD HR2 hz2
    have d0 := (hb4.cell (by show b < w.heap.size; exact hb)).trans K0.out
    have d1 := (hb4.cell (by show b < w.heap.size; exact hb)).trans K1.out
    have d2 := (hb4.cell (by show b < w.heap.size; exact hb)).trans K2.out
    have d3 := (hb4.cell (by show b < w.heap.size; exact hb)).trans K3.out
    have hb'' : b < W4.heap.size := Nat.lt_of_lt_of_le hb hb4.size
    have hz4 := blk_lt hr4
    have x0 : W4.cell? ⟨w1.heap.size, 0, none⟩ = some (.slice (some ⟨b, o + 4, none⟩) 1 (cap + 1)) := blk_cell hr4 rfl
    have x1 : W4.cell? ⟨w1.heap.size, 1, none⟩ = some (.pointer (some ⟨g, 0, none⟩)) := blk_cell hr4 rfl
    have x6 : W4.cell? ⟨g, 6, none⟩ = some (.int .i64 0) := blk_cell hp4.pt rfl
    have HRD := Lib.hid (rread_no w1.heap.size 0 b (o + 4) 0 (cap + 1) g W4 x0 x1 x6)
    have HAD := Lib.hid fun W (hb : Below W4.heap.size W4 W) => add_num2 g q false n t W (KL.below (KL.below HL.out hb4) hb) (hp4.go hb)
    have HR4 := Lib.hid hr4
    have HB4 := Lib.hid hb4
    unfold tokV at HAD
    clear hr4 hp4 hb4
    rw [rounds_succ]
    go_wp2_with (go_at_call 219; refine HRD.out.mono ?_; rintro e w' ⟨rfl, rfl⟩)
    go_region_with (go_at_call 220; refine (HAD.out _ (Below.refl _ _).drew).mono ?_; rintro e w5 ⟨rfl, hp5, hf5⟩; have hr5 := (hf5.block _ hz4 (by omega) (by omega)).trans HR4.out; have y0 : w5.cell? ⟨w1.heap.size, 0, none⟩ = some (.slice (some ⟨b, o + 4, none⟩) 1 (cap + 1)) := blk_cell hr5 rfl; have y1 : w5.frozen? ⟨w1.heap.size, 0, none⟩ = false := blk_froz hr5; have y2 : w5.cell? ⟨w1.heap.size, 1, none⟩ = some (.pointer (some ⟨g, 0, none⟩)) := blk_cell hr5 rfl; have hz5 := blk_lt hr5; have HR5 := Lib.hid hr5; have HP5 := Lib.hid hp5; have HF5 := Lib.hid hf5; clear hr5 hp5 hf5)
  all_goals go_wp2_with fail
  all_goals
    rw [rounds_succ]
    go_wp2_with (go_at_call 219; refine (rread_yes _ _ _ _ _ (blk_cell (blk_set HR5.out) rfl)).mono ?_; rintro e w' ⟨rfl, rfl⟩)
    go_returns
    refine ⟨⟨g, q, rfl, ?_⟩, ?_⟩
    · exact ⟨by rw [Below.heap_setCell _ _ _ _ (by show g ≠ w1.heap.size; omega)]; exact HP5.out.pt, by rw [Below.heap_setCell _ _ _ _ (by show q ≠ w1.heap.size; omega)]; exact HP5.out.ch⟩
    · exact (HB4.out.trans ((Below.refl _ _).drew.trans (HF5.out.to (by omega) (by omega) (by show w.heap.size ≤ W4.heap.size; have := HB4.out.size; omega)))).setCell (by omega) _

/-- The value of such a text. -/
theorem mfirst_neg (v : Value) (n : Int) (t : ByteArray) (w : World) (hL : Xp.KLaid w) (h : PReads w v [⟨3, 0, ⟨#[45]⟩⟩, ⟨2, n, t⟩]) :
    Calls Tryz.prog 193 #[v, .slice none 0 0] w fun r w' => r = .returned (.tuple #[.agg #[.string ⟨#[]⟩, .int .i64 (wrap32 (-wrap32 n))], .bool true, .int .i64 0]) ∧ Below w.heap.size w w' := by
  obtain ⟨ad, cap, rfl, hc, hm, h⟩ := h
  obtain ⟨b, o, rfl, hb, hcell⟩ := h (by simp)
  have c := hcell 0 (by simp)
  have d := hcell 1 (by simp)
  simp only [Nat.zero_mul, Nat.one_mul, Nat.add_zero, List.getElem_cons_zero, List.getElem_cons_succ] at c d
  obtain ⟨c0, c1, c2, c3⟩ := c
  obtain ⟨e0, e1, e2, e3⟩ := d
  obtain ⟨cap, rfl⟩ : ∃ k, cap = k + 2 := ⟨cap - 2, by simp at hc; omega⟩
  have HE := Lib.hid fun W (hb' : Below w.heap.size w W) => expression_neg b o cap n t W (KL.below hL hb') (Nat.lt_of_lt_of_le hb hb'.size) hm (by rw [hb'.cell (by exact hb)]; exact c0) (by rw [hb'.cell (by exact hb)]; exact c1) (by rw [hb'.cell (by exact hb)]; exact c2) (by rw [hb'.cell (by exact hb)]; exact c3) (by rw [hb'.cell (by exact hb)]; exact e0) (by rw [hb'.cell (by exact hb)]; exact e1) (by rw [hb'.cell (by exact hb)]; exact e2) (by rw [hb'.cell (by exact hb)]; exact e3)
  clear hL hcell h c0 c1 c2 c3 e0 e1 e2 e3
  generalize wrap32 (-wrap32 n) = m at *
  simp only [List.length_cons, List.length_nil]
  go_enter Tryz.func193, Tryz.ntmps193
  go_wp2_with fail
  refine (HE.out _ (oalloc _ _)).mono ?_
  rintro e w1 ⟨⟨g, q, rfl, hp1⟩, hb1⟩
  obtain ⟨hB1, hz1, xr⟩ := box_keep hb1
  have HB1 := Lib.hid hB1
  have XR := Lib.hid xr
  have HF := Lib.hid fun W (hb : Below w1.heap.size w1 W) => first_one g q _ ⟨#[]⟩ m 0 W (hp1.go hb)
  have HP1 := Lib.hid hp1
  clear hb1 hB1 xr hp1 HE
  go_wp2_with (go_at_call 223; refine (HF.out _ (Below.refl _ _)).mono ?_; rintro e w2 ⟨rfl, hb2⟩; have HB2 := Lib.hid (HB1.out.trans (hb2.mono (by omega))); have HP2 := Lib.hid (HP1.out.go hb2); have xr2 := (hb2.block _ hz1).trans XR.out; obtain ⟨⟨u0, u1⟩, f0, f1⟩ := var2_of xr2; have hz2 := blk_lt xr2; clear hb2 xr2)
  have HE6 : Hid (∀ W, Below w2.heap.size w2 W → Calls Tryz.prog 225 #[.pointer (some ⟨g, 0, none⟩)] W fun r w' => r = .returned (.int .i64 0) ∧ w' = W) := fun W hb => err_any g 0 W (blk_cell (HP2.out.go hb).pt rfl)
  clear HP1 HF XR
  go_region_with (go_at_call 225; refine (HE6.out _ (by go_grown)).mono ?_; rintro e w3 ⟨rfl, rfl⟩)
  all_goals
    go_wp2
    refine bodyPost_ret (v := .tuple #[.agg #[.string ⟨#[]⟩, .int .i64 m], .bool true, .int .i64 0]) (by simp [results, Tryz.results193, go_sem, World.cell?_alloc_lt, hz2, u0, u1]) rfl ⟨rfl, ?_⟩
    have hb := HB2.out
    go_grown

end Go.Proofs.YtgjmbjahgcndnaaGreatDoor

namespace Go.Proofs.YtgjmbjahgcndnaaGreatDoor
open Go.RowKit

theorem aexpr_neg (gu : Nat) (kd : ByteArray) (v : Value) (n : Int) (t : ByteArray) (w : World) (hL : Xp.KLaid w) (h : PReads w v [⟨3, 0, ⟨#[45]⟩⟩, ⟨2, n, t⟩]) (c0 : w.cell? ⟨gu, 0, none⟩ = some (.slice none 0 0)) :
    Calls Tryz.prog 164 #[.pointer (some ⟨gu, 0, none⟩), .string kd, v] w fun r w' => r = .returned (.tuple #[opV kd 0 ⟨#[]⟩ (wrap32 (-wrap32 n)), .int .i64 0]) ∧ Below w.heap.size w w' := by
  have HM := Lib.hid fun W (hb : Below w.heap.size w W) => mfirst_neg v n t W (KL.below hL hb) (h.below hb (Nat.le_refl _))
  have hg : gu < w.heap.size := World.block_lt_of_cell? w _ c0
  obtain ⟨ad, cap, rfl, _⟩ := h
  clear hL
  generalize wrap32 (-wrap32 n) = m at *
  simp only [List.length_cons, List.length_nil] at *
  unfold opV
  go_enter Tryz.func164, Tryz.ntmps164
  go_wp2_with fail
  refine (HM.out _ (oalloc _ _)).mono ?_
  rintro e w1 ⟨rfl, hb1⟩
  obtain ⟨hB1, hz1, xr⟩ := box_keep hb1
  obtain ⟨⟨⟨u0, u1⟩, u2, u3⟩, ⟨f0, f1⟩, f2, f3⟩ := var4_of xr
  have HB1 := Lib.hid hB1
  have XR := Lib.hid xr
  clear hb1 hB1 xr HM
  go_wp2_with fail
  exact bodyPost_ret (v := .tuple #[.agg #[.string kd, .int .i64 0, .string ⟨#[]⟩, .int .i64 m], .int .i64 0]) (by simp [results, Tryz.results164, go_sem, World.cell?_alloc_lt, hz1, u0, u1, u2, u3]) rfl ⟨rfl, ((((HB1.out.setCell (Nat.le_refl _) _).setCell (Nat.le_refl _) _).setCell (Nat.le_refl _) _).setCell (Nat.le_refl _) _).alloc (by simp; omega) _⟩

theorem operand_neg (gu : Nat) (v : Value) (sn : Int) (n : Int) (t : ByteArray) (w : World) (hL : Xp.KLaid w) (h : PReads w v [⟨3, sn, ⟨#[35]⟩⟩, ⟨3, 0, ⟨#[45]⟩⟩, ⟨2, n, t⟩]) (c0 : w.cell? ⟨gu, 0, none⟩ = some (.slice none 0 0)) :
    Calls Tryz.prog 131 #[.pointer (some ⟨gu, 0, none⟩), v] w fun r w' => r = .returned (.tuple #[opV ⟨#[35]⟩ 0 ⟨#[]⟩ (wrap32 (-wrap32 n)), .int .i64 0]) ∧ Below w.heap.size w w' := by
  have hg : gu < w.heap.size := World.block_lt_of_cell? w _ c0
  have HN := Lib.hid fun W (hb : Below w.heap.size w W) => next_any v [⟨3, sn, ⟨#[35]⟩⟩, ⟨3, 0, ⟨#[45]⟩⟩, ⟨2, n, t⟩] W (h.below hb (Nat.le_refl _))
  have HE0 := Lib.hid fun v' W (hb : Below w.heap.size w W) (hv : PReads W v' [⟨3, 0, ⟨#[45]⟩⟩, ⟨2, n, t⟩]) => aexpr_neg gu ⟨#[35]⟩ v' n t W (KL.below hL hb) hv (by rw [hb.cell (by exact hg)]; exact c0)
  have HST : Hid (∀ W, Calls Tryz.prog 125 #[tokV 3 sn ⟨#[35]⟩, .string ⟨#[35]⟩] W fun r w' => r = .returned (.bool true) ∧ Below W.heap.size W w') := fun W => by
    have := asign_any 3 sn ⟨#[35]⟩ ⟨#[35]⟩ W
    rwa [show ((3 : Int) == 3 && (⟨#[35]⟩ : ByteArray).toList == (⟨#[35]⟩ : ByteArray).toList) = true by simp] at this
  obtain ⟨ad, cap, rfl, _⟩ := h
  clear hL
  generalize wrap32 (-wrap32 n) = m at *
  unfold opV at *
  unfold Tk.V tokV headT at *
  simp only [List.length_cons, List.length_nil] at *
  go_enter Tryz.func131, Tryz.ntmps131
  go_wp2_with fail
  refine (HN.out _ (oalloc _ _)).mono ?_
  rintro e w1 ⟨⟨v', rfl, hv⟩, hb1⟩
  obtain ⟨ad', cap', rfl, _⟩ := id hv
  obtain ⟨hB1, hz1, xr⟩ := box_keep hb1
  simp only [List.tail_cons, List.length_cons, List.length_nil] at *
  have HPV := Lib.hid hv
  have HBV := Lib.hid hb1
  clear hb1 hv
  go_wp2_with fail
  refine (HST.out _).mono ?_
  rintro e w2 ⟨rfl, hb2⟩
  obtain ⟨hB2, hz2, xt⟩ := box_keep hb2
  have t0 : w2.cell? ⟨w1.heap.size, 0, none⟩ = some (.int .i64 3) := blk_cell xt rfl
  have t1 : w2.cell? ⟨w1.heap.size, 1, none⟩ = some (.int .i64 sn) := blk_cell xt rfl
  have t2 : w2.cell? ⟨w1.heap.size, 2, none⟩ = some (.string ⟨#[35]⟩) := blk_cell xt rfl
  replace xr := (hB2.block _ (by omega)).trans xr
  have HB := Lib.hid (hB1.trans (hB2.mono (by omega)))
  replace HBV := Lib.hid (HBV.out.trans (hB2.mono HBV.out.size))
  clear hb2 hB2 hB1
  have XR := Lib.hid xr
  clear xr xt
  go_wp2_with fail
  refine (HE0.out _ _ HB.out (HPV.out.below HBV.out (Nat.le_refl _))).mono ?_
  rintro e w6 ⟨rfl, hb6⟩
  obtain ⟨⟨⟨u0, u1⟩, u2, u3⟩, ⟨f0, f1⟩, f2, f3⟩ := var4_of ((hb6.block _ (by omega)).trans XR.out)
  have hz6 : w.heap.size < w6.heap.size := Nat.lt_of_lt_of_le (by omega) hb6.size
  replace HB := Lib.hid (HB.out.trans (hb6.mono (by omega)))
  clear hb6
  go_wp2_with fail
  exact bodyPost_ret (v := .tuple #[.agg #[.string ⟨#[35]⟩, .int .i64 0, .string ⟨#[]⟩, .int .i64 m], .int .i64 0]) (by simp [results, Tryz.results131, go_sem, u0, u1, u2, u3]) rfl ⟨rfl, (((HB.out.setCell (Nat.le_refl _) _).setCell (Nat.le_refl _) _).setCell (Nat.le_refl _) _).setCell (Nat.le_refl _) _⟩

end Go.Proofs.YtgjmbjahgcndnaaGreatDoor

namespace Go.Proofs.YtgjmbjahgcndnaaGreatDoor
open Go.RowKit

/-- Three lines: each one's text and number. -/
structure L3 (w : World) (b o : Nat) (v0 v1 v2 : Value) (p0 p1 p2 : Int) (t0 t1 t2 : List Tk) : Prop where
  lt : b < w.heap.size
  s0 : ∃ a n c, v0 = .slice a n c
  s1 : ∃ a n c, v1 = .slice a n c
  s2 : ∃ a n c, v2 = .slice a n c
  c0 : w.cell? ⟨b, o, none⟩ = some v0
  d0 : w.cell? ⟨b, o + 1, none⟩ = some (.int .i64 p0)
  c1 : w.cell? ⟨b, o + 2, none⟩ = some v1
  d1 : w.cell? ⟨b, o + 3, none⟩ = some (.int .i64 p1)
  c2 : w.cell? ⟨b, o + 4, none⟩ = some v2
  d2 : w.cell? ⟨b, o + 5, none⟩ = some (.int .i64 p2)
  r0 : PReads w v0 t0
  r1 : PReads w v1 t1
  r2 : PReads w v2 t2
theorem L3.go {w w' : World} {b o : Nat} {v0 v1 v2 : Value} {p0 p1 p2 : Int} {t0 t1 t2 : List Tk} (h : L3 w b o v0 v1 v2 p0 p1 p2 t0 t1 t2) (hb : Below w.heap.size w w') : L3 w' b o v0 v1 v2 p0 p1 p2 t0 t1 t2 :=
  ⟨Nat.lt_of_lt_of_le h.lt hb.size, h.s0, h.s1, h.s2, by rw [hb.cell (by exact h.lt)]; exact h.c0, by rw [hb.cell (by exact h.lt)]; exact h.d0, by rw [hb.cell (by exact h.lt)]; exact h.c1, by rw [hb.cell (by exact h.lt)]; exact h.d1, by rw [hb.cell (by exact h.lt)]; exact h.c2, by rw [hb.cell (by exact h.lt)]; exact h.d2, h.r0.below hb (Nat.le_refl _), h.r1.below hb (Nat.le_refl _), h.r2.below hb (Nat.le_refl _)⟩

/-- A line that has no more than its head. -/
theorem more_no (v : Value) (p : Int) (x : Tk) (w : World) (h : PReads w v [x]) :
    Calls Tryz.prog 148 #[.agg #[v, .int .i64 p]] w fun r w' => r = .returned (.bool false) ∧ Below w.heap.size w w' := by
  have HB := Lib.hid fun W (hb : Below w.heap.size w W) => behind_any v [x] W (h.below hb (Nat.le_refl _))
  clear h
  go_enter Tryz.func148, Tryz.ntmps148
  go_wp2_with (go_at_call 122; refine (HB.out _ (by go_grown)).mono ?_; rintro e w1 ⟨⟨v', rfl, hv⟩, hb1⟩; obtain ⟨ad, cap, rfl, _⟩ := hv; have HB1 := Lib.hid hb1; clear hb1)
  go_ret
  exact ⟨rfl, Below.trans (by go_grown) (HB1.out.mono (by go_size))⟩

end Go.Proofs.YtgjmbjahgcndnaaGreatDoor

namespace Go.Proofs.YtgjmbjahgcndnaaGreatDoor
open Go.RowKit

end Go.Proofs.YtgjmbjahgcndnaaGreatDoor

namespace Go.Proofs.YtgjmbjahgcndnaaGreatDoor
open Go.RowKit

end Go.Proofs.YtgjmbjahgcndnaaGreatDoor

namespace Go.Proofs.YtgjmbjahgcndnaaGreatDoor
open Go.RowKit

end Go.Proofs.YtgjmbjahgcndnaaGreatDoor

namespace Go.Proofs.YtgjmbjahgcndnaaGreatDoor
open Go.RowKit

end Go.Proofs.YtgjmbjahgcndnaaGreatDoor

namespace Go.Proofs.YtgjmbjahgcndnaaGreatDoor
open Go.RowKit

end Go.Proofs.YtgjmbjahgcndnaaGreatDoor

namespace Go.Proofs.YtgjmbjahgcndnaaGreatDoor
open Go.RowKit

/-- A part: a token, or an inner text. -/
structure Pc where
  t : Tk
  q : Option Addr
def pc (t : Tk) : Pc := ⟨t, none⟩

/-- The slice v reads as these parts. -/
def XReads (w : World) (v : Value) (ps : List Pc) : Prop :=
  ∃ ad cap, v = .slice ad ps.length cap ∧ ps.length ≤ cap ∧ cap ≤ maxLen ∧ (0 < ps.length → ∃ b o, ad = some ⟨b, o, none⟩ ∧ b < w.heap.size ∧ ∀ i (h : i < ps.length),
    w.cell? ⟨b, o + i * 4, none⟩ = some (.int .i64 ps[i].t.k) ∧ w.cell? ⟨b, o + i * 4 + 1, none⟩ = some (.int .i64 ps[i].t.n) ∧ w.cell? ⟨b, o + i * 4 + 2, none⟩ = some (.string ps[i].t.t) ∧ w.cell? ⟨b, o + i * 4 + 3, none⟩ = some (.pointer ps[i].q))
theorem XReads.below {w w' : World} {B : Nat} {v : Value} {ps : List Pc} (h : XReads w v ps) (hb : Below B w w') (hB : w.heap.size ≤ B) : XReads w' v ps := by
  obtain ⟨ad, cap, rfl, hc, hm, h⟩ := h
  refine ⟨ad, cap, rfl, hc, hm, fun h0 => ?_⟩
  obtain ⟨b, o, rfl, hlt, hcell⟩ := h h0
  refine ⟨b, o, rfl, Nat.lt_of_lt_of_le hlt hb.size, fun i hi => ?_⟩
  have := hcell i hi
  rw [hb.cell (by show b < B; omega), hb.cell (by show b < B; omega), hb.cell (by show b < B; omega), hb.cell (by show b < B; omega)]
  exact this
theorem XReads.shape {w : World} {v : Value} {ps : List Pc} (h : XReads w v ps) : ∃ ad len cap, v = .slice ad len cap := by
  obtain ⟨ad, cap, rfl, _⟩ := h
  exact ⟨_, _, _, rfl⟩
theorem XReads.toP {w : World} {v : Value} {ts : List Tk} (h : XReads w v (ts.map pc)) : PReads w v ts := by
  obtain ⟨ad, cap, rfl, hc, hm, h⟩ := h
  refine ⟨ad, cap, by rw [List.length_map], by simpa using hc, hm, fun h0 => ?_⟩
  obtain ⟨b, o, rfl, hlt, hcell⟩ := h (by simpa using h0)
  refine ⟨b, o, rfl, hlt, fun i hi => ?_⟩
  have := hcell i (by simpa using hi)
  simpa [pc] using this
theorem xnext (v : Value) (x : Tk) (r : List Pc) (w0 w : World) (h : XReads w0 v (pc x :: r)) (hb : Below w0.heap.size w0 w) :
    Calls Tryz.prog 90 #[v] w fun e w' => (∃ v', e = .returned (.tuple #[x.V, v']) ∧ XReads w0 v' r) ∧ Below w.heap.size w w' := by
  obtain ⟨ad, cap, rfl, hc, hm, h⟩ := h
  obtain ⟨b, o, rfl, hlt, hcell⟩ := h (by simp)
  obtain ⟨cap, rfl⟩ : ∃ c, cap = c + 1 := ⟨cap - 1, by simp at hc; omega⟩
  have c := hcell 0 (by simp)
  simp only [Nat.zero_mul, Nat.add_zero, List.getElem_cons_zero, pc] at c
  rw [← hb.cell (by exact hlt), ← hb.cell (by exact hlt), ← hb.cell (by exact hlt), ← hb.cell (by exact hlt)] at c
  have hc' : r.length ≤ cap := by simpa using hc
  refine (next_cons b o r.length cap x.k x.n x.t w _ (Lib.hid rfl) hc' hm (Nat.lt_of_lt_of_le hlt hb.size) c.1 c.2.1 c.2.2.1 c.2.2.2).mono ?_
  rintro e w' ⟨rfl, hb⟩
  refine ⟨⟨_, rfl, _, cap, rfl, hc', by omega, fun h0 => ?_⟩, hb⟩
  have h0' : 0 < r.length := h0
  refine ⟨b, o + 4, by rw [if_neg (by omega)], hlt, fun i hi => ?_⟩
  have hi' : i < r.length := hi
  have := hcell (i + 1) (by simp; omega)
  simp only [List.getElem_cons_succ] at this
  rw [show o + (i + 1) * 4 = o + 4 + i * 4 by omega] at this
  exact this

/-- Whether a part is a comma. -/
def isCommaP (x : Pc) : Bool := match x.q with
  | none => isComma x.t
  | some _ => false
/-- What stands between commas, from a piece that was begun on. -/
def splitX : List Pc → List Pc → List (List Pc)
  | cur, [] => [cur]
  | cur, x :: r => if isCommaP x = true then cur :: splitX [] r else splitX (cur ++ [x]) r
/-- Split: nothing, if there is no token at all. -/
def piecesX (ts : List Pc) : List (List Pc) := if ts = [] then [] else splitX [] ts

/-- A piece of a text. -/
theorem XReads.piece {w : World} {b o cap : Nat} {ts : List Pc} (h : XReads w (.slice (some ⟨b, o, none⟩) ts.length cap) ts) {i j : Nat} (hij : i ≤ j) (hj : j ≤ ts.length) (hi : i < ts.length) : XReads w (.slice (some ⟨b, o + i * 4, none⟩) (j - i) (cap - i)) ((ts.take j).drop i) := by
  obtain ⟨ad, cap', e, hc, hm, h⟩ := h
  injection e with e1 _ e3
  subst e1 e3
  obtain ⟨b', o', e', hlt, hcell⟩ := h (by omega)
  injection e' with e'
  injection e' with e1 e2 _
  subst e1 e2
  have hl : ((ts.take j).drop i).length = j - i := by simp; omega
  refine ⟨some ⟨b, o + i * 4, none⟩, cap - i, by rw [hl], by rw [hl]; omega, by omega, fun _ => ⟨b, o + i * 4, rfl, hlt, fun k hk => ?_⟩⟩
  rw [hl] at hk
  have := hcell (i + k) (by omega)
  rw [show o + (i + k) * 4 = o + i * 4 + k * 4 by omega] at this
  simpa using this

/-- A row of texts, each one's tokens. -/
def XRow (w W : World) (base : Nat) (ov : Value) (vs : List Value) (ps : List (List Pc)) : Prop := W.ownsRow base 143 1 ov vs.length vs ∧ vs.length = ps.length ∧ ∀ i (h : i < vs.length) (h' : i < ps.length), XReads w vs[i] ps[i]

theorem XRow.app {w w1 : World} {oa : Option Addr} {oc : Nat} {vs : List Value} {done : List (List Pc)} (hr : XRow w w1 w.heap.size (.slice oa vs.length oc) vs done) (hb : Below w.heap.size w w1) (hl : vs.length ≤ 100000) (pa : Option Addr) (pn pc : Nat) (piece : List Pc) (hp : XReads w (.slice pa pn pc) piece) :
    ∃ la lc w2, (∀ ty, (Builtin.append_ #[232, 232] ty #[.slice oa vs.length oc, .slice (some ⟨w1.heap.size, 0, none⟩) 1 1]).run Tryz.prog (w1.alloc (.cells #[.slice pa pn pc] 143)) = .ok (.slice la (vs.length + 1) lc) w2) ∧
      XRow w w2 w.heap.size (.slice la (vs.length + 1) lc) (vs ++ [.slice pa pn pc]) (done ++ [piece]) ∧ Below w.heap.size w w2 := by
  have hrow := hr.1.alloc (.cells #[.slice pa pn pc] 143)
  obtain ⟨v', w2, happ, hr', hgr⟩ := app1 232 143 _ 1 24 Tryz.underlying232 infoTx rfl (by decide) (by decide) hrow (by have := hb.size; go_size) [.slice pa pn pc] rfl w1.heap.size (new_at _ _ rfl) (by intro u hu; simp at hu; subst hu; rfl) (by omega)
  obtain ⟨la, lc, rfl⟩ := row_shape hr'
  refine ⟨la, lc, w2, happ, ⟨by simpa using hr', by simp [hr.2.1], fun k h1 h2 => ?_⟩, ?_⟩
  · by_cases hk : k < vs.length
    · have hk2 : k < done.length := by rw [← hr.2.1]; exact hk
      rw [List.getElem_append_left hk, List.getElem_append_left hk2]
      exact hr.2.2 k hk hk2
    · have e : k = vs.length := by simp at h1; omega
      subst e
      have e2 : done.length = vs.length := hr.2.1.symm
      simp only [List.getElem_append_right (Nat.le_refl _), List.getElem_append_right (Nat.le_of_eq e2), Nat.sub_self, List.getElem_cons_zero, e2]
      exact hp
  · exact (hb.alloc hb.size _).grown hgr (by have := hb.size; go_size) (fun k hk => (hrow.lt k hk).1)
theorem XReads.none (w : World) (ad : Option Addr) (c : Nat) (h : c ≤ maxLen) : XReads w (.slice ad 0 c) [] := ⟨ad, c, rfl, Nat.zero_le _, h, fun h => by simp at h⟩

theorem splitX_comma {cur r : List Pc} {x : Pc} {done : List (List Pc)} {X : List (List Pc)} (h : X = done ++ splitX cur (x :: r)) (hx : isCommaP x = true) : X = (done ++ [cur]) ++ splitX [] r := by
  rw [h, splitX, if_pos hx]; simp
theorem splitX_other {cur r : List Pc} {x : Pc} {done : List (List Pc)} {X : List (List Pc)} (h : X = done ++ splitX cur (x :: r)) (hx : isCommaP x = false) : X = done ++ splitX (cur ++ [x]) r := by
  rw [h, splitX, if_neg (by simp [hx])]

set_option maxHeartbeats 4000000 in
set_option maxRecDepth 100000 in
theorem xsplit_some (b o cap : Nat) (ts : List Pc) (w : World) (h : XReads w (.slice (some ⟨b, o, none⟩) ts.length cap) ts) (h0 : 0 < ts.length) (hn : ts.length ≤ 100000) :
    Calls Tryz.prog 130 #[.slice (some ⟨b, o, none⟩) ts.length cap] w fun r w' => (∃ ov vs, r = .returned ov ∧ XRow w w' w.heap.size ov vs (splitX [] ts)) ∧ Below w.heap.size w w' := by
  have HT := Lib.hid h
  obtain ⟨ad, cap', e, hc, hmx, hcl⟩ := h
  injection e with e1 _ e3
  subst e1 e3
  obtain ⟨b', o', e', hlt, hcell⟩ := hcl h0
  injection e' with e'
  injection e' with e1 e2 _
  subst e1 e2
  have HC := Lib.hid hcell
  clear hcl hcell
  have hne : ((ts.length : Int) == 0) = false := beq_eq_false_iff_ne.2 (by omega)
  unfold maxLen at hmx
  go_enter Tryz.func130, Tryz.ntmps130
  go_wp2_with fail
  go_loopw [3, 4, 12] (fun ov fv iv wr => ∃ (i f : Nat) (vs : List Value) (done : List (List Pc)), f ≤ i ∧ i ≤ ts.length ∧ iv = .int .i64 i ∧ fv = .int .i64 f ∧ Hid (XRow w wr w.heap.size ov vs done) ∧ Hid (Below w.heap.size w wr) ∧ vs.length ≤ i ∧ Hid (splitX [] ts = done ++ splitX ((ts.take i).drop f) (ts.drop i))) (fun _ _ iv _ => ts.length - (intOf iv).toNat)
  case atStart => exact ⟨0, 0, [], [], Nat.le_refl _, Nat.zero_le _, rfl, rfl, ⟨World.ownsRow_nil _ _ _ _, rfl, fun i h => by simp at h⟩, Below.refl _ _, Nat.le_refl _, by simp [Hid]⟩
  case round =>
    obtain ⟨i, f, vs, done, hf, hi, rfl, rfl, HR, HB, hvl, HS⟩ := hrel
    by_cases hlt2 : i < ts.length
    · have hi' : (i : Int) < ts.length := by omega
      obtain ⟨k0, k1, k2, k3⟩ := HC.out i hlt2
      have hz := HB.out.size
      replace k0 := (HB.out.cell (by show b < w.heap.size; exact hlt)).trans k0
      replace k1 := (HB.out.cell (by show b < w.heap.size; exact hlt)).trans k1
      replace k2 := (HB.out.cell (by show b < w.heap.size; exact hlt)).trans k2
      replace k3 := (HB.out.cell (by show b < w.heap.size; exact hlt)).trans k3
      have hb2 : b < wr.heap.size := by omega
      obtain ⟨x, hx⟩ : ∃ x, ts[i]'hlt2 = x := ⟨_, rfl⟩
      have HD : Hid (ts.drop i = x :: ts.drop (i + 1)) := by rw [← hx]; exact List.drop_eq_getElem_cons hlt2
      have HTK : Hid ((ts.take (i + 1)).drop f = (ts.take i).drop f ++ [x]) := by
        unfold Hid
        rw [List.take_succ_eq_append_getElem hlt2, hx, List.drop_append_of_le_length (by simp; omega)]
      have HPC : Hid (XReads w (.slice (some ⟨b, o + f * 4, none⟩) (i - f) (cap - f)) ((ts.take i).drop f)) := HT.out.piece hf hi (by omega)
      rw [hx] at k0 k1 k2 k3
      clear hx
      obtain ⟨⟨xk, xn, xt⟩, xq⟩ := x
      simp only at k0 k1 k2 k3
      obtain ⟨oa, oc, hov⟩ := row_shape HR.out.1
      subst hov
      rcases xq with _ | xq
      case some =>
        have HS2 : Hid (splitX [] ts = done ++ splitX ((ts.take (i + 1)).drop f) (ts.drop (i + 1))) := by
          unfold Hid
          rw [HTK.out]
          exact splitX_other (by rw [← HD.out]; exact HS.out) rfl
        go_wp2_with fail
        exact ⟨⟨i + 1, f, vs, done, by omega, by omega, by go_num, rfl, ⟨Sc.owns_below HR.out.1 (oalloc _ _) (Nat.le_refl _), HR.out.2⟩, HB.out.alloc HB.out.size _, by omega, HS2⟩, by simp [intOf]; omega⟩
      have HCM := Lib.hid fun W => comma_any xk xn xt W
      have HIC : Hid (isCommaP ⟨⟨xk, xn, xt⟩, none⟩ = (xk == 3 && xt.toList == [44])) := rfl
      unfold tokV at HCM
      cases hcm : (xk == 3 && xt.toList == [44])
      · rw [hcm] at HCM HIC
        have HS2 : Hid (splitX [] ts = done ++ splitX ((ts.take (i + 1)).drop f) (ts.drop (i + 1))) := by
          unfold Hid
          rw [HTK.out]
          exact splitX_other (by rw [← HD.out]; exact HS.out) HIC.out
        go_wp2_with (go_at_call 152; refine (HCM.out _).mono ?_; rintro e w1 ⟨rfl, hb1⟩; have HB1 : Hid (Below w.heap.size w w1) := Below.trans (by have hb := HB.out; go_grown) (hb1.mono (by go_size)); have HR1 : Hid (XRow w w1 w.heap.size (.slice oa vs.length oc) vs done) := ⟨Sc.owns_below (HR.out.1.alloc _) hb1 (Nat.le_refl _), HR.out.2⟩; clear hb1)
        exact ⟨⟨i + 1, f, vs, done, by omega, by omega, by go_num, rfl, HR1, HB1, by omega, HS2⟩, by simp [intOf]; omega⟩
      · rw [hcm] at HCM HIC
        have HS2 : Hid (splitX [] ts = (done ++ [(ts.take i).drop f]) ++ splitX ((ts.take (i + 1)).drop (i + 1)) (ts.drop (i + 1))) := by
          unfold Hid
          have e : (ts.take (i + 1)).drop (i + 1) = [] := List.drop_eq_nil_of_le (by simp; omega)
          rw [e]
          exact splitX_comma (by rw [← HD.out]; exact HS.out) HIC.out
        have hfi : (f : Int) ≤ i := by omega
        have hic : (i : Int) ≤ cap := by omega
        have hcf : ¬ cap - f = 0 := by omega
        go_wp2_with (first
          | (go_at_call 152; refine (HCM.out _).mono ?_; rintro e w1 ⟨rfl, hb1⟩; have HB1 : Hid (Below w.heap.size w w1) := Below.trans (by have hb := HB.out; go_grown) (hb1.mono (by go_size)); have HR1 : Hid (XRow w w1 w.heap.size (.slice oa vs.length oc) vs done) := ⟨Sc.owns_below (HR.out.1.alloc _) hb1 (Nat.le_refl _), HR.out.2⟩; obtain ⟨la, lc, w2, happ, hr2, hb2⟩ := HR1.out.app HB1.out (by omega) _ _ _ _ HPC.out; have HA := Lib.hid happ; have HR2 := Lib.hid hr2; have HB2 := Lib.hid hb2; clear hb1 happ hr2 hb2)
          | (at_builtin; refine wpList_app_eq rfl _ _ _ _ rfl _ _ rfl rfl HA.out ?_))
        exact ⟨⟨i + 1, i + 1, _, _, Nat.le_refl _, by omega, by go_num, by go_num, HR2, HB2, by simp; omega, HS2⟩, by simp [intOf]; omega⟩
    · obtain rfl : i = ts.length := by omega
      have hi' : ¬ ((ts.length : Nat) : Int) < ts.length := by omega
      obtain ⟨oa, oc, hov⟩ := row_shape HR.out.1
      subst hov
      have hfi : (f : Int) ≤ ts.length := by omega
      have hic : (ts.length : Int) ≤ cap := by omega
      have HE : Hid (splitX [] ts = done ++ [(ts.take ts.length).drop f]) := by
        have := HS.out
        rw [List.drop_length] at this
        exact this
      have hmx' : cap ≤ maxLen := by unfold maxLen; omega
      by_cases hcf : cap - f = 0
      · have e1 : f = ts.length := by omega
        have e2 : ts.length - f = 0 := by omega
        have HP : Hid (XReads w (.slice (some ⟨b, o, none⟩) (ts.length - f) 0) ((ts.take ts.length).drop f)) := by
          unfold Hid
          rw [List.take_length, e1, List.drop_length, Nat.sub_self]
          exact XReads.none w _ _ (Nat.zero_le _)
        obtain ⟨la, lc, w2, happ, hr2, hb2⟩ := HR.out.app HB.out (by omega) _ _ _ _ HP.out
        have HA := Lib.hid happ
        have HR2 := Lib.hid hr2
        have HB2 := Lib.hid hb2
        clear happ hr2 hb2 e1 e2
        go_wp2_with (at_builtin; refine wpList_app_eq rfl _ _ _ _ rfl _ _ rfl rfl HA.out ?_)
        go_ret
        refine ⟨?_, HB2.out⟩
        rw [HE.out]
        exact ⟨_, rfl, _, HR2.out⟩
      · have HP : Hid (XReads w (.slice (some ⟨b, o + f * 4, none⟩) (ts.length - f) (cap - f)) ((ts.take ts.length).drop f)) := by
          by_cases hfl : f < ts.length
          · exact HT.out.piece hf (Nat.le_refl _) hfl
          · have e1 : f = ts.length := by omega
            unfold Hid
            rw [List.take_length, e1, List.drop_length, Nat.sub_self]
            exact XReads.none w _ _ (by omega)
        obtain ⟨la, lc, w2, happ, hr2, hb2⟩ := HR.out.app HB.out (by omega) _ _ _ _ HP.out
        have HA := Lib.hid happ
        have HR2 := Lib.hid hr2
        have HB2 := Lib.hid hb2
        clear happ hr2 hb2
        go_wp2_with (at_builtin; refine wpList_app_eq rfl _ _ _ _ rfl _ _ rfl rfl HA.out ?_)
        go_ret
        refine ⟨?_, HB2.out⟩
        rw [HE.out]
        exact ⟨_, rfl, _, HR2.out⟩

/-- What stands between commas of any text of tokens alone. -/
theorem xsplit_any (v : Value) (ts : List Pc) (w : World) (h : XReads w v ts) (hn : ts.length ≤ 100000) :
    Calls Tryz.prog 130 #[v] w fun r w' => (∃ ov vs, r = .returned ov ∧ XRow w w' w.heap.size ov vs (piecesX ts)) ∧ Below w.heap.size w w' := by
  obtain ⟨ad, cap, rfl, hc, hm, hcl⟩ := id h
  cases ts with
  | nil =>
    refine (split_nil ad cap w).mono ?_
    rintro e w' ⟨rfl, rfl⟩
    exact ⟨⟨_, [], rfl, World.ownsRow_nil _ _ _ _, rfl, fun i h => by simp at h⟩, Below.refl _ _⟩
  | cons x r =>
    obtain ⟨b, o, rfl, hlt, _⟩ := hcl (by simp)
    refine (xsplit_some b o cap (x :: r) w h (by simp) hn).mono ?_
    rintro e w' ⟨h1, h2⟩
    exact ⟨by simpa [piecesX] using h1, h2⟩

theorem splitX_len : ∀ (ts cur : List Pc), (splitX cur ts).length ≤ ts.length + 1
  | [], cur => by simp [splitX]
  | x :: r, cur => by
    rw [splitX]
    split
    · have := splitX_len r []; simp; omega
    · have := splitX_len r (cur ++ [x]); simp; omega
theorem xpieces_len (ts : List Pc) : (piecesX ts).length ≤ ts.length + 1 := by
  unfold piecesX
  split
  · simp
  · exact splitX_len ts []

set_option maxHeartbeats 4000000 in
set_option maxRecDepth 100000 in
/-- Operands, each of which is read as it is told. -/
theorem xoperands_any (gu : Nat) (v : Value) (ts : List Pc) (ops : List Opd) (w : World) (h : XReads w v ts) (hn : ts.length ≤ 1000) (hl : ops.length = (piecesX ts).length)
    (hop : ∀ i (h : i < ops.length) (u : Value) (W : World), Below w.heap.size w W → XReads W u ((piecesX ts)[i]'(by omega)) → Calls Tryz.prog 131 #[.pointer (some ⟨gu, 0, none⟩), u] W fun r w' => r = .returned (.tuple #[ops[i].V, .int .i64 0]) ∧ Below W.heap.size W w') :
    Calls Tryz.prog 92 #[.pointer (some ⟨gu, 0, none⟩), v] w fun r w' => (∃ ov, r = .returned (.tuple #[ov, .int .i64 0]) ∧ w'.ownsRow w.heap.size 235 4 ov ops.length (opC ops)) ∧ Below w.heap.size w w' := by
  have HS := Lib.hid (xsplit_any v ts w h (by omega))
  have hol : ops.length ≤ 1001 := by have := xpieces_len ts; omega
  have HOP := Lib.hid hop
  obtain ⟨ad, cap, rfl, _⟩ := h
  clear hop
  go_enter Tryz.func92, Tryz.ntmps92
  go_wp2_with fail
  refine HS.out.mono ?_
  rintro e w1 ⟨⟨ov, vs, rfl, hT⟩, hB1⟩
  obtain ⟨oa, oc, hov⟩ := row_shape hT.1
  subst hov
  have HT := Lib.hid hT
  have HB1 := Lib.hid hB1
  have hvl : vs.length = ops.length := by rw [hl]; exact hT.2.1
  clear hT hB1 HS
  go_wp2_with fail
  go_loopw [7, 16] (fun ov iv wr => ∃ k : Nat, k ≤ ops.length ∧ iv = .int .i64 k ∧ Hid (wr.ownsRow w1.heap.size 235 4 ov k (opC (ops.take k))) ∧ Hid (Below w1.heap.size w1 wr)) (fun _ iv _ => ops.length - (intOf iv).toNat)
  case atStart => exact ⟨0, Nat.zero_le _, rfl, Lib.hid (by simpa [opC] using World.ownsRow_nil w1 _ _ _), Below.refl _ _⟩
  case round =>
    obtain ⟨k, hk, rfl, HR, HB⟩ := hrel
    by_cases hlt : k < ops.length
    · have hk' : (k : Int) < vs.length := by omega
      obtain ⟨g, rfl, hgl, hgc⟩ := row_cell1 HT.out.1 (k := k) (by omega)
      have hz := HB.out.size
      have hB : Below w.heap.size w wr := HB1.out.trans (HB.out.mono HB1.out.size)
      have hkv : k < vs.length := by omega
      have hpk : XReads w (vs[k]'hkv) ((piecesX ts)[k]'(by omega)) := HT.out.2.2 k hkv (by omega)
      obtain ⟨u, hu⟩ : ∃ u, vs[k]'hkv = u := ⟨_, rfl⟩
      rw [hu] at hgc hpk
      clear hu
      obtain ⟨ua, un, uc, rfl⟩ := hpk.shape
      have c0 : wr.cell? ⟨g, k, none⟩ = some (.slice ua un uc) := (HB.out.cell (by show g < w1.heap.size; exact hgl)).trans hgc
      have hg2 : g < wr.heap.size := by omega
      have HC := Lib.hid (HOP.out k hlt (.slice ua un uc) wr hB (hpk.below hB (Nat.le_refl _)))
      have HTK : Hid (opC (ops.take (k + 1)) = opC (ops.take k) ++ [.string ops[k].kd, .int .i64 ops[k].r, .string ops[k].nm, .int .i64 ops[k].n]) := by
        unfold Hid
        rw [List.take_succ_eq_append_getElem hlt, opC_app]
      unfold Opd.V opV at HC
      obtain ⟨x, hx⟩ : ∃ x, ops[k]'hlt = x := ⟨_, rfl⟩
      rw [hx] at HC HTK
      clear hx hpk hB hgc
      obtain ⟨la, lc, hov⟩ := row_shape HR.out
      subst hov
      have HAP : Hid (∀ w2, Below wr.heap.size wr w2 → ∃ la' lc' w3, (∀ ty, (Builtin.append_ #[191, 191] ty #[.slice la k lc, .slice (some ⟨w2.heap.size + 1, 0, none⟩) 1 1]).run Tryz.prog ((w2.alloc (.cells #[.string x.kd, .int .i64 x.r, .string x.nm, .int .i64 x.n] 235)).alloc (.cells #[.string x.kd, .int .i64 x.r, .string x.nm, .int .i64 x.n] 235)) = .ok (.slice la' (k + 1) lc') w3) ∧
          w3.ownsRow w1.heap.size 235 4 (.slice la' (k + 1) lc') (k + 1) (opC (ops.take (k + 1))) ∧ Below w1.heap.size w1 w3) := fun w2 hb => by
        have hz2 := hb.size
        have hrow := ((Sc.owns_below HR.out hb (Nat.le_refl _)).alloc (.cells #[.string x.kd, .int .i64 x.r, .string x.nm, .int .i64 x.n] 235)).alloc (.cells #[.string x.kd, .int .i64 x.r, .string x.nm, .int .i64 x.n] 235)
        obtain ⟨v', w3, happ, hr', hgr⟩ := app1 191 235 _ 4 48 Tryz.underlying191 infoOp rfl (by decide) (by decide) hrow (by go_size) [.string x.kd, .int .i64 x.r, .string x.nm, .int .i64 x.n] rfl (w2.heap.size + 1) (new_at _ _ (by simp)) (by intro u hu; simp at hu; rcases hu with rfl | rfl | rfl | rfl <;> rfl) (by omega)
        obtain ⟨la', lc', rfl⟩ := row_shape hr'
        refine ⟨la', lc', w3, happ, by rw [HTK.out]; exact hr', ?_⟩
        have hb1 := HB.out.trans (hb.mono hz)
        exact ((hb1.alloc (by omega) _).alloc (by go_size) _).grown hgr (by go_size) (fun q hq => (hrow.lt q hq).1)
      go_wp2_with (first
        | (go_at_call 131; refine HC.out.mono ?_; rintro e w2 ⟨rfl, hb2⟩; obtain ⟨la', lc', w3, happ, hr3, hb3⟩ := HAP.out w2 hb2; have HA := Lib.hid happ; have HR3 := Lib.hid hr3; have HB3 := Lib.hid hb3; clear hb2 happ hr3 hb3)
        | (at_builtin; refine wpList_app_eq rfl _ _ _ _ rfl _ _ rfl rfl HA.out ?_))
      exact ⟨⟨k + 1, by omega, by go_num, HR3, HB3⟩, by simp [intOf]; omega⟩
    · obtain rfl : k = ops.length := by omega
      have hk' : ¬ ((ops.length : Nat) : Int) < vs.length := by omega
      obtain ⟨la, lc, hov⟩ := row_shape HR.out
      subst hov
      go_wp2
      go_ret2
      refine ⟨?_, HB1.out.trans (HB.out.mono HB1.out.size)⟩
      have := HR.out
      rw [List.take_length] at this
      have h2 := Sc.ownsRow_base this HB1.out.size
      rw [hl] at h2
      exact ⟨_, rfl, h2⟩

end Go.Proofs.YtgjmbjahgcndnaaGreatDoor

namespace Go.Proofs.YtgjmbjahgcndnaaGreatDoor
open Go.RowKit

def hdMac : ByteArray := ⟨#[46, 109, 97, 99, 114, 111]⟩
def hdEndm : ByteArray := ⟨#[46, 101, 110, 100, 109]⟩

theorem endOf_mac (w : World) : Calls Tryz.prog 183 #[.string hdMac] w fun r w' => r = .returned (.string hdEndm) ∧ w = w' := by
  unfold hdMac hdEndm
  go_enter Tryz.func183, Tryz.ntmps183
  go_wp2
  go_ret
  exact ⟨rfl, rfl⟩

set_option maxHeartbeats 2000000 in
theorem find_mac (b o n cap : Nat) (v0 v1 v2 : Value) (p0 p1 p2 : Int) (t0 t1 t2 : List Tk) (w : World) (h : L3 w b o v0 v1 v2 p0 p1 p2 t0 t1 t2) (hn : n + 3 ≤ 1000) (h0 : headS t0 = hdMac) (h1 : PlainHead (headS t1)) (h2 : headS t2 = hdEndm) :
    Calls Tryz.prog 147 #[.slice (some ⟨b, o, none⟩) (n + 3) cap] w fun r w' => r = .returned (.tuple #[.int .i64 2, .int .i64 2]) ∧ Below w.heap.size w w' := by
  have HH0 := Lib.hid fun W (hb : Below w.heap.size w W) => head_any v0 t0 W (h.r0.below hb (Nat.le_refl _))
  have HH1 := Lib.hid fun W (hb : Below w.heap.size w W) => head_any v1 t1 W (h.r1.below hb (Nat.le_refl _))
  have HH2 := Lib.hid fun W (hb : Below w.heap.size w W) => head_any v2 t2 W (h.r2.below hb (Nat.le_refl _))
  rw [h0] at HH0
  rw [h2] at HH2
  have HE := Lib.hid endOf_mac
  have HV := Lib.hid h
  obtain ⟨a0, n0, k0, rfl⟩ := h.s0
  obtain ⟨a1, n1, k1, rfl⟩ := h.s1
  obtain ⟨a2, n2, k2, rfl⟩ := h.s2
  have hlt := h.lt
  have c0 := h.c0
  have d0 := h.d0
  clear h h0 h2
  generalize headS t1 = s at *
  have q1 := h1 _ (List.mem_of_getElem? (show heads[0]? = _ from rfl))
  have q4 := h1 _ (List.mem_of_getElem? (show heads[3]? = _ from rfl))
  have q6 := h1 _ (List.mem_of_getElem? (show heads[6]? = _ from rfl))
  unfold hdMac hdEndm at *
  clear h1
  go_enter Tryz.func147, Tryz.ntmps147
  go_wp2_with (first | (go_at_call 118; refine (HH0.out _ (by go_grown)).mono ?_; rintro e w1 ⟨rfl, hb1⟩; have HB1 := Lib.hid hb1; clear hb1) | (go_at_call 183; refine (HE.out _).mono ?_; rintro e w2 ⟨rfl, rfl⟩))
  clear HE c0 d0
  go_loopw [6, 7, 19] (fun mv ov iv wr => ∃ k : Nat, k ≤ 2 ∧ iv = .int .i64 k ∧ mv = .int .i64 0 ∧ ov = .int .i64 (if k = 0 then 0 else 1) ∧ Hid (Below w.heap.size w wr)) (fun _ _ iv _ => 3 - (intOf iv).toNat)
  case atStart => exact ⟨0, by omega, rfl, rfl, rfl, HB1⟩
  case round =>
    obtain ⟨k, hk, rfl, rfl, rfl, HB⟩ := hrel
    have hv := HV.out.go (w' := wr)
    have hV := HV.out
    have hz : b < wr.heap.size := Nat.lt_of_lt_of_le hlt HB.out.size
    have e0 := (HB.out.cell (p := ⟨b, o, none⟩) hlt).trans hV.c0
    have e1 := (HB.out.cell (p := ⟨b, o + 1, none⟩) hlt).trans hV.d0
    have e2 := (HB.out.cell (p := ⟨b, o + 2, none⟩) hlt).trans hV.c1
    have e3 := (HB.out.cell (p := ⟨b, o + 3, none⟩) hlt).trans hV.d1
    have e4 := (HB.out.cell (p := ⟨b, o + 4, none⟩) hlt).trans hV.c2
    have e5 := (HB.out.cell (p := ⟨b, o + 5, none⟩) hlt).trans hV.d2
    clear hV hv
    have hk3 : k = 0 ∨ k = 1 ∨ k = 2 := by omega
    have hzz := HB.out.size
    rcases hk3 with rfl | rfl | rfl
    · rw [if_pos rfl]
      go_wp2_with (go_at_call 118; refine (HH0.out _ (HB.out.alloc hzz _)).mono ?_; rintro e w3 ⟨rfl, hb3⟩; have HB3 := Lib.hid ((HB.out.alloc hzz _).trans (hb3.mono (by simp; omega))); clear hb3)
      exact ⟨⟨1, by omega, rfl, rfl, rfl, HB3⟩, by simp [intOf]⟩
    · rw [if_neg (by decide)]
      go_wp2_with (go_at_call 118; refine (HH1.out _ (HB.out.alloc hzz _)).mono ?_; rintro e w3 ⟨rfl, hb3⟩; have HB3 := Lib.hid ((HB.out.alloc hzz _).trans (hb3.mono (by simp; omega))); clear hb3)
      exact ⟨⟨2, by omega, rfl, rfl, rfl, HB3⟩, by simp [intOf]⟩
    · rw [if_neg (by decide)]
      go_wp2_with (go_at_call 118; refine (HH2.out _ (HB.out.alloc hzz _)).mono ?_; rintro e w3 ⟨rfl, hb3⟩; have HB3 := Lib.hid ((HB.out.alloc hzz _).trans (hb3.mono (by simp; omega))); clear hb3)
      go_returns
      exact ⟨rfl, HB3.out⟩

set_option maxHeartbeats 2000000 in
theorem cut_mac (b o n cap : Nat) (v0 v1 v2 : Value) (p0 p1 p2 : Int) (t0 t1 : List Tk) (x2 : Tk) (w : World) (h : L3 w b o v0 v1 v2 p0 p1 p2 t0 t1 [x2]) (hn : n + 3 ≤ 1000) (hc : n + 3 ≤ cap) (hcm : cap ≤ maxLen) (h0 : headS t0 = hdMac) (h1 : PlainHead (headS t1)) (h2 : headS [x2] = hdEndm) :
    Calls Tryz.prog 119 #[.slice (some ⟨b, o, none⟩) (n + 3) cap] w fun r w' => r = .returned (.tuple #[.agg #[v0, .int .i64 p0, .slice (some ⟨b, o + 2, none⟩) 1 (cap - 1), .slice none 0 0, .int .i64 3], .agg #[.int .i64 0, .int .i64 0]]) ∧ Below w.heap.size w w' := by
  have HFD := Lib.hid fun W (hb : Below w.heap.size w W) => find_mac b o n cap v0 v1 v2 p0 p1 p2 t0 t1 [x2] W (h.go hb) hn h0 h1 h2
  have HMO := Lib.hid fun W (hb : Below w.heap.size w W) => more_no v2 p2 x2 W (h.r2.below hb (Nat.le_refl _))
  have HV := Lib.hid h
  obtain ⟨a0, n0, k0, rfl⟩ := h.s0
  obtain ⟨a2, n2, k2, rfl⟩ := h.s2
  have hlt := h.lt
  clear h h0 h1 h2
  go_enter Tryz.func119, Tryz.ntmps119
  go_wp2_with (go_at_call 147; refine (HFD.out _ (by go_grown)).mono ?_; rintro e w1 ⟨rfl, hb1⟩; have hB1 : Below w.heap.size w w1 := Below.trans (by go_grown) (hb1.mono (by go_size)); have x0 : w1.heap[w.heap.size]? = some (.cells #[.slice none 0 0, .int .i64 0, .slice none 0 0, .slice none 0 0, .int .i64 0] 216 (0, 0)) := (by rw [hb1.block _ (by go_size), old2 _ _ (by go_size)]; exact new_at _ _ rfl); have x1 : w1.heap[w.heap.size + 1]? = some (.cells #[.int .i64 0, .int .i64 0] 36 (0, 0)) := (by rw [hb1.block _ (by go_size)]; exact new_at _ _ (by go_size)); have HB1 := Lib.hid hB1; have X0 := Lib.hid x0; have X1 := Lib.hid x1; have e0 := (hB1.cell (p := ⟨b, o, none⟩) hlt).trans HV.out.c0; have e1 := (hB1.cell (p := ⟨b, o + 1, none⟩) hlt).trans HV.out.d0; have e4 := (hB1.cell (p := ⟨b, o + 4, none⟩) hlt).trans HV.out.c2; have e5 : w1.cell? ⟨b, o + 4 + 1, none⟩ = some (.int .i64 p2) := (hB1.cell (p := ⟨b, o + 5, none⟩) hlt).trans HV.out.d2; have hb1' := Nat.lt_of_lt_of_le hlt hB1.size; clear hb1 hB1 x0 x1)
  refine (HMO.out _ HB1.out).mono ?_
  rintro e w2 ⟨rfl, hb2⟩
  have hB2 : Below w.heap.size w w2 := HB1.out.trans (hb2.mono HB1.out.size)
  have z0 := (hb2.block _ (blk_lt X0.out)).trans X0.out
  have z1 := (hb2.block _ (blk_lt X1.out)).trans X1.out
  replace e0 := (hb2.cell (p := ⟨b, o, none⟩) hb1').trans e0
  replace e1 := (hb2.cell (p := ⟨b, o + 1, none⟩) hb1').trans e1
  have HB2 := Lib.hid hB2
  have Z0 := Lib.hid z0
  have Z1 := Lib.hid z1
  have hz := blk_lt z1
  have hzb : b < w2.heap.size := Nat.lt_of_lt_of_le hb1' hb2.size
  obtain ⟨c, rfl⟩ : ∃ c, cap = c + 1 := ⟨cap - 1, by omega⟩
  have hc0 : c ≠ 0 := by omega
  clear e4 e5 hb1' hb2 hB2 z0 z1 HB1 X0 X1 HMO HFD
  go_wp2_with fail
  go_region
  have hb3 : Below w2.heap.size w2 ((w2.alloc (.cells #[.slice a0 n0 k0, .int .i64 p0, .slice (some ⟨b, o + 2, none⟩) 1 c, .slice none 0 0, .int .i64 3] 216)).drew) := (oalloc _ _).drew
  have z3 : ((w2.alloc (.cells #[.slice a0 n0 k0, .int .i64 p0, .slice (some ⟨b, o + 2, none⟩) 1 c, .slice none 0 0, .int .i64 3] 216)).drew).heap[w2.heap.size]? = some (.cells #[.slice a0 n0 k0, .int .i64 p0, .slice (some ⟨b, o + 2, none⟩) 1 c, .slice none 0 0, .int .i64 3] 216 (0, 0)) := new_at _ _ rfl
  generalize (w2.alloc (.cells #[.slice a0 n0 k0, .int .i64 p0, .slice (some ⟨b, o + 2, none⟩) 1 c, .slice none 0 0, .int .i64 3] 216)).drew = W3 at *
  have z0 := (hb3.block _ (blk_lt Z0.out)).trans Z0.out
  have z1 := (hb3.block _ (blk_lt Z1.out)).trans Z1.out
  have g0 : W3.cell? ⟨w.heap.size, 0, none⟩ = some (.slice none 0 0) := blk_cell z0 rfl
  have g1 : W3.cell? ⟨w.heap.size, 1, none⟩ = some (.int .i64 0) := blk_cell z0 rfl
  have g2 : W3.cell? ⟨w.heap.size, 2, none⟩ = some (.slice none 0 0) := blk_cell z0 rfl
  have g3 : W3.cell? ⟨w.heap.size, 3, none⟩ = some (.slice none 0 0) := blk_cell z0 rfl
  have g4 : W3.cell? ⟨w.heap.size, 4, none⟩ = some (.int .i64 0) := blk_cell z0 rfl
  have f0 : W3.frozen? ⟨w.heap.size, 0, none⟩ = false := blk_froz z0
  have f1 : W3.frozen? ⟨w.heap.size, 1, none⟩ = false := blk_froz z0
  have f2 : W3.frozen? ⟨w.heap.size, 2, none⟩ = false := blk_froz z0
  have f3 : W3.frozen? ⟨w.heap.size, 3, none⟩ = false := blk_froz z0
  have f4 : W3.frozen? ⟨w.heap.size, 4, none⟩ = false := blk_froz z0
  have q0 : W3.cell? ⟨w2.heap.size, 0, none⟩ = some (.slice a0 n0 k0) := blk_cell z3 rfl
  have q1 : W3.cell? ⟨w2.heap.size, 1, none⟩ = some (.int .i64 p0) := blk_cell z3 rfl
  have q2 : W3.cell? ⟨w2.heap.size, 2, none⟩ = some (.slice (some ⟨b, o + 2, none⟩) 1 c) := blk_cell z3 rfl
  have q3 : W3.cell? ⟨w2.heap.size, 3, none⟩ = some (.slice none 0 0) := blk_cell z3 rfl
  have q4 : W3.cell? ⟨w2.heap.size, 4, none⟩ = some (.int .i64 3) := blk_cell z3 rfl
  obtain ⟨⟨k0', k1'⟩, j0, j1⟩ := var2_of z1
  have hzw : w.heap.size < W3.heap.size := blk_lt z0
  have hzw1 : w.heap.size + 1 < W3.heap.size := blk_lt z1
  have HB3 := Lib.hid (HB2.out.trans (hb3.mono HB2.out.size))
  clear hb3 z0 z1 z3 Z0 Z1 HB2 e0 e1 HV
  go_wp2_with fail
  refine bodyPost_ret (v := .tuple #[.agg #[.slice a0 n0 k0, .int .i64 p0, .slice (some ⟨b, o + 2, none⟩) 1 c, .slice none 0 0, .int .i64 3], .agg #[.int .i64 0, .int .i64 0]]) (by simp [results, Tryz.results119, go_sem, g0, g1, g2, g3, g4, k0', k1']) rfl ⟨by simp, ?_⟩
  exact ((((((HB3.out.setCell (Nat.le_refl _) _).setCell (Nat.le_refl _) _).setCell (Nat.le_refl _) _).setCell (Nat.le_refl _) _).setCell (Nat.le_refl _) _).setCell (Nat.le_succ _) _).setCell (Nat.le_succ _) _

end Go.Proofs.YtgjmbjahgcndnaaGreatDoor
