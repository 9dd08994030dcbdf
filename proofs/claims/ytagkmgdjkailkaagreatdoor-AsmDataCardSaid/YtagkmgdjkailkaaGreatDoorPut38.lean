/- asm: the unit of a source of lines of .long. asm: nothing is made long where nothing leads; places laid. -/
import Derived.Test.YtagkmgdjkailkaaGreatDoorPut37
import Derived.Test.YtagkmgdjkailkaaGreatDoorPut31
import Derived.Test.YtagkmgdjkailkaaGreatDoorPut27
import Derived.Test.YtagkmgdjkailkaaGreatDoorPut35
namespace Go.Proofs.YtagkmgdjkailkaaGreatDoor
open Go.RowKit

theorem lcells_at : ∀ (ps : List (Sc.Ln × Value)) (i : Nat) (h : i < ps.length), (Sc.lcells ps)[i * 2]? = some (.int .i64 ps[i].1.pos) ∧ (Sc.lcells ps)[i * 2 + 1]? = some ps[i].2
  | [], i, h => by simp at h
  | p :: r, 0, h => by simp [Sc.lcells]
  | p :: r, i + 1, h => by
    have ih := lcells_at r i (by simpa using h)
    have e : Sc.lcells (p :: r) = [.int .i64 p.1.pos, p.2] ++ Sc.lcells r := by simp [Sc.lcells]
    rw [e, show (i + 1) * 2 = 2 + i * 2 by omega]
    simp only [List.getElem_cons_succ]
    refine ⟨?_, ?_⟩
    · rw [List.getElem?_append_right (by simp)]; simpa using ih.1
    · rw [List.getElem?_append_right (by simp; omega)]; simpa [show 2 + i * 2 + 1 - 2 = i * 2 + 1 by omega] using ih.2

theorem lin_of {w : World} {base : Nat} {v : Value} {ps : List (Sc.Ln × Value)} (h : Sc.LOwn w base v ps) : LIn w v (ps.map (·.1)) := by
  rcases id h.row.2 with ⟨hv, h0⟩ | ⟨g, cap, cur, rfl, hg, hgg, hle, hm, rest⟩
  · exact ⟨none, 0, by rw [hv]; simp [h0], fun h => by simp at h; omega⟩
  · refine ⟨some ⟨g, 0, none⟩, cap, by simp, fun _ => ⟨g, 0, rfl, blk_lt hgg, fun i hi => ?_⟩⟩
    have hi' : i < ps.length := by simpa using hi
    obtain ⟨a, b⟩ := lcells_at ps i hi'
    have hadd : ∀ j, (⟨g, 0, none⟩ : Addr).add j = ⟨g, 0 + j, none⟩ := fun j => by unfold Addr.add; split <;> simp_all
    have k0 := h.row.cells rfl _ _ a
    have k1 := h.row.cells rfl _ _ b
    rw [hadd] at k0 k1
    simp only [List.getElem_map]
    exact ⟨ps[i].2, k0, k1, Sc.reads_of_owns (h.toks ps[i] (List.getElem_mem _))⟩

/-- Lines with their numbers. -/
def numbered : Nat → List Int → List (Int × Int)
  | _, [] => []
  | k, n :: r => ((k : Int), n) :: numbered (k + 1) r
theorem numbered_len : ∀ (l : List Int) (k : Nat), (numbered k l).length = l.length
  | [], _ => rfl
  | n :: r, k => by simp [numbered, numbered_len r]
theorem numbered_ln : ∀ (l : List Int) (k : Nat), (Sc.dataLn k l).map lnOf = (numbered k l).map fun a => (a.1, [tkLong, tkNum a.2])
  | [], _ => rfl
  | n :: r, k => by simp [Sc.dataLn, numbered, numbered_ln r, lnOf, tkOf, Sc.tLong, Sc.tNum, tkLong, tkNum]
theorem dataLn_head : ∀ (l : List Int) (k : Nat) (x : Sc.Ln), x ∈ Sc.dataLn k l → x.toks.length ≤ 100000 ∧ PlainHead (headS (x.toks.map tkOf))
  | [], _, x, h => by simp [Sc.dataLn] at h
  | n :: r, k, x, h => by
    rcases List.mem_cons.1 h with rfl | h
    · refine ⟨by simp, ?_⟩
      intro q hq
      have e : headS (([Sc.tLong, Sc.tNum n] : List Sc.Tok).map tkOf) = ⟨#[46, 108, 111, 110, 103]⟩ := rfl
      rw [e, ByteArray.toList_eq]
      revert q
      decide
    · exact dataLn_head r (k + 1) x h
theorem dataLn_len : ∀ (l : List Int) (k : Nat), (Sc.dataLn k l).length = l.length
  | [], _ => rfl
  | n :: r, k => by simp [Sc.dataLn, dataLn_len r]

set_option maxHeartbeats 4000000 in
theorem unit_data (v : Value) (l : List Int) (code : List UInt8) (w : World) (hv : Sc.BReads w v (Sc.dataS l)) (hr : ∀ n, n ∈ l → 0 ≤ n ∧ n < 4294967296) (hl : l.length ≤ 40) (hL : Xp.KLaid w) (hG : Sc.Glob w) (hNL : ∀ gu B e nv lm pp rv ln, NoLong gu B e nv lm pp rv ln (dataI (numbered 1 l))) (hW : WritesTo (dataI (numbered 1 l)) code) :
    Calls Tryz.prog 7 #[v] w fun r w' => (∃ ca cl cc, r = .returned (.tuple #[.agg #[.slice ca cl cc, .slice none 0 0, .slice none 0 0], .agg #[.int .i64 0, .int .i64 0]]) ∧ OBytes w' (.slice ca cl cc) code) ∧ Below w.heap.size w w' := by
  have hs := Sc.src_ok (Sc.data_src l hr hl)
  have HLN := Lib.hid fun W (hb : Below w.heap.size w W) => Sc.lines_any v (Sc.dataS l) W (hG.below hb hG.sz) (by
    obtain ⟨ad, cap, rfl, hm, hc⟩ := hv
    refine ⟨ad, cap, rfl, hm, fun h0 => ?_⟩
    obtain ⟨b, o, rfl, hlt, hcell⟩ := hc h0
    exact ⟨b, o, rfl, Nat.lt_of_lt_of_le hlt hb.size, fun i hi => by rw [hb.cell (by exact hlt)]; exact hcell i hi⟩)
  obtain ⟨ad, cap, rfl, _⟩ := hv
  obtain ⟨hs1, hs2, hs3⟩ := hs
  have HSH : Hid (∀ v W, LIn W v (Sc.dataLn 1 l) → Calls Tryz.prog 14 #[v] W fun r w' => (∃ lv, r = .returned (.tuple #[lv, .slice none 0 0, .agg #[.int .i64 0, .int .i64 0]]) ∧ LRd w' lv ((numbered 1 l).map fun a => (a.1, [tkLong, tkNum a.2]))) ∧ Below W.heap.size W w') := fun v W h => by
    have := short_any v (Sc.dataLn 1 l) W h (by rw [dataLn_len]; omega) (fun x hx => (dataLn_head l 1 x hx).1) (fun x hx => (dataLn_head l 1 x hx).2)
    rwa [numbered_ln] at this
  have HBD := Lib.hid fun v W (hb : Below w.heap.size w W) (h : LRd W v ((numbered 1 l).map fun a => (a.1, [tkLong, tkNum a.2]))) => build_data v (numbered 1 l) code W h (KL.below hL hb) (hG.below hb hG.sz) (by rw [numbered_len]; omega) hNL hW
  clear hL hG hNL hW hr
  go_enter Tryz.func7, Tryz.ntmps7
  go_wp2_with fail
  refine (HLN.out _ (by go_grown)).mono ?_
  rintro e w1 ⟨⟨lv, ps, rfl, hps, hlo⟩, hb1⟩
  rw [hs1, hs2]
  rw [hs3] at hps
  have hlin := lin_of hlo
  rw [hps] at hlin
  obtain ⟨la, lc, hlv⟩ := row_shape hlo.row
  subst hlv
  have x0 : w1.heap[w.heap.size]? = some (.cells #[.slice none 0 0, .slice none 0 0, .slice none 0 0] 28 (0, 0)) := by
    rw [hb1.block _ (by go_size), old2 _ _ (by go_size)]
    exact new_at _ _ rfl
  have x1 : w1.heap[w.heap.size + 1]? = some (.cells #[.int .i64 0, .int .i64 0] 31 (0, 0)) := by
    rw [hb1.block _ (by go_size)]
    exact new_at _ _ (by go_size)
  have HB1 : Hid (Below w.heap.size w w1) := Below.trans (by go_grown) (hb1.mono (by go_size))
  have HSC := Lib.hid fun W (hb : Below w1.heap.size w1 W) => HSH.out (.slice la ps.length lc) W (by
    obtain ⟨ad', cap', e, hh⟩ := hlin
    refine ⟨ad', cap', e, fun h0 => ?_⟩
    obtain ⟨b, o, rfl, hlt, hc⟩ := hh h0
    refine ⟨b, o, rfl, Nat.lt_of_lt_of_le hlt hb.size, fun i hi => ?_⟩
    obtain ⟨tv, a1, a2, a3⟩ := hc i hi
    exact ⟨tv, by rw [hb.cell (by exact hlt)]; exact a1, by rw [hb.cell (by exact hlt)]; exact a2, a3.below hb (Nat.le_refl _)⟩)
  have X0 := Lib.hid x0
  have X1 := Lib.hid x1
  clear hb1 hlo hlin hps x0 x1 HLN HSH hs1 hs2 hs3
  go_wp2_with fail
  refine (HSC.out _ (oalloc _ _)).mono ?_
  rintro e w2 ⟨⟨sv, rfl, hlr⟩, hb2⟩
  obtain ⟨sa, sc, hsv, _⟩ := id hlr
  subst hsv
  obtain ⟨hB2, hz2, yr⟩ := box_keep hb2
  have HB2 := Lib.hid (HB1.out.trans (hB2.mono HB1.out.size))
  have X02 := Lib.hid ((hB2.block _ (blk_lt X0.out)).trans X0.out)
  have X12 := Lib.hid ((hB2.block _ (blk_lt X1.out)).trans X1.out)
  have HLR := Lib.hid hlr
  have YR := Lib.hid yr
  obtain ⟨⟨u0, u1⟩, f0, f1⟩ := var2_of yr
  clear hb2 hB2 yr hlr HSC X0 X1 HB1
  go_wp2_with fail
  have hsame : Below w2.heap.size w2 ((w2.setCell ⟨w1.heap.size, 0, none⟩ (.int .i64 0)).setCell ⟨w1.heap.size, 1, none⟩ (.int .i64 0)) := (same_set YR.out rfl).trans (same_set (same_blk YR.out rfl) rfl)
  have hlr3 := HLR.out.below hsame (Nat.le_refl _)
  simp only [List.length_map] at hlr3
  refine (HBD.out _ _ (HB2.out.trans (hsame.mono HB2.out.size)) hlr3).mono ?_
  rintro e w6 ⟨⟨ca, cl, cc, rfl, hob⟩, hb6⟩
  have hb7 : Below w2.heap.size w2 w6 := hsame.trans (hb6.mono hsame.size)
  have z0 := (hb7.block _ (blk_lt X02.out)).trans X02.out
  have z1 := (hb7.block _ (blk_lt X12.out)).trans X12.out
  have g0 : w6.cell? ⟨w.heap.size, 0, none⟩ = some (.slice none 0 0) := blk_cell z0 rfl
  have g1 : w6.cell? ⟨w.heap.size, 1, none⟩ = some (.slice none 0 0) := blk_cell z0 rfl
  have g2 : w6.cell? ⟨w.heap.size, 2, none⟩ = some (.slice none 0 0) := blk_cell z0 rfl
  have q0 : w6.frozen? ⟨w.heap.size, 0, none⟩ = false := blk_froz z0
  have q1 : w6.frozen? ⟨w.heap.size, 1, none⟩ = false := blk_froz z0
  have q2 : w6.frozen? ⟨w.heap.size, 2, none⟩ = false := blk_froz z0
  obtain ⟨⟨v0, v1⟩, t0, t1⟩ := var2_of z1
  have HOB := Lib.hid hob
  have HB6 := Lib.hid (HB2.out.trans (hb7.mono HB2.out.size))
  have Z0 := Lib.hid z0
  have Z1 := Lib.hid z1
  clear hob hb6 hb7 z0 z1 hsame hlr3 HBD HLR u0 u1 f0 f1
  go_wp2_with fail
  have n3 : ∀ (x y z : Option Addr) (a b c d e f : Nat) (j : Nat) (n : Int), (#[Value.slice x a b, .slice y c d, .slice z e f] : Array Value)[j]? ≠ some (.int .u8 n) := by
    intro x y z a b c d e f j n h
    rcases j with _ | _ | _ | j <;> simp at h
  have o1 := OBytes.set (i := 0) (v := .slice ca cl cc) HOB.out Z0.out (n3 _ _ _ _ _ _ _ _ _)
  have z1 := blk_set (i := 0) (v := .slice ca cl cc) Z0.out
  have o2 := OBytes.set (i := 1) (v := .slice none 0 0) o1 z1 (n3 _ _ _ _ _ _ _ _ _)
  have z2 := blk_set (i := 1) (v := .slice none 0 0) z1
  have o3 := OBytes.set (i := 2) (v := .slice none 0 0) o2 z2 (n3 _ _ _ _ _ _ _ _ _)
  have Z1b : (((w6.setCell ⟨w.heap.size, 0, none⟩ (.slice ca cl cc)).setCell ⟨w.heap.size, 1, none⟩ (.slice none 0 0)).setCell ⟨w.heap.size, 2, none⟩ (.slice none 0 0)).heap[w.heap.size + 1]? = some (.cells #[.int .i64 0, .int .i64 0] 31 (0, 0)) := by
    rw [Below.heap_setCell _ _ _ _ (by show w.heap.size + 1 ≠ w.heap.size; omega), Below.heap_setCell _ _ _ _ (by show w.heap.size + 1 ≠ w.heap.size; omega), Below.heap_setCell _ _ _ _ (by show w.heap.size + 1 ≠ w.heap.size; omega)]
    exact Z1.out
  refine bodyPost_ret (v := .tuple #[.agg #[.slice ca cl cc, .slice none 0 0, .slice none 0 0], .agg #[.int .i64 0, .int .i64 0]]) (by simp [results, Tryz.results7, go_sem, g0, g1, g2, v0, v1]) rfl ⟨⟨ca, cl, cc, rfl, ?_⟩, ?_⟩
  · exact o3.below ((same_set Z1b rfl).trans (same_set (same_blk Z1b rfl) rfl)) (Nat.le_refl _)
  · exact ((((HB6.out.setCell (Nat.le_refl _) _).setCell (Nat.le_refl _) _).setCell (Nat.le_refl _) _).setCell (Nat.le_succ _) _).setCell (Nat.le_succ _) _

end Go.Proofs.YtagkmgdjkailkaaGreatDoor

namespace Go.Proofs.YtagkmgdjkailkaaGreatDoor
open Go.RowKit

set_option maxHeartbeats 4000000 in
set_option maxRecDepth 100000 in
theorem lengthen_none (gu B : Nat) (e nv lm pp pv rv : Value) (ln : Int) (its : List It) (w : World) (h : UR w B gu e ln nv lm pp pv rv its) (hn : its.length ≤ 100000) (hnf : ∀ x, x ∈ its → NoFar x) :
    Calls Tryz.prog 51 #[.pointer (some ⟨gu, 0, none⟩)] w fun r w' => r = .returned (.bool false) ∧ Below w.heap.size w w' := by
  obtain ⟨iv, l, h1, h2, h3, h4⟩ := h.its
  obtain ⟨ia, ic, rfl⟩ := row_shape h2
  have hll : l.length = its.length := by rw [← h3]; simp
  have c4 : w.cell? ⟨gu, 4, none⟩ = some (.slice ia its.length ic) := blk_cell h1 rfl
  have hg := blk_lt h1
  have H2 := Lib.hid h2
  have H4 : Hid (∀ p, p ∈ l → p.2.1 = .nilFunc ∧ ∃ a b c, p.2.2 = .func a b c) := fun p hp => ⟨(h4 p hp).noFar (hnf p.1 (by rw [← h3]; exact List.mem_map_of_mem hp)), (h4 p hp).shape.2⟩
  clear h h1 h2 h3 h4 hnf
  have hnn : ∀ W, (binOp .neq 128 .nilFunc .nilFunc).run Tryz.prog W = .ok (.bool false) W := fun W => by kernel_rfl
  go_enter Tryz.func51, Tryz.ntmps51
  go_wp2_with fail
  go_loopw [3, 11] (fun bv iv wr => ∃ k : Nat, k ≤ its.length ∧ iv = .int .i64 k ∧ bv = .bool false ∧ Hid (Below w.heap.size w wr)) (fun _ iv _ => its.length - (intOf iv).toNat)
  case atStart => exact ⟨0, Nat.zero_le _, rfl, rfl, Below.refl _ _⟩
  case round =>
    obtain ⟨k, hk, rfl, rfl, HB⟩ := hrel
    by_cases hlt : k < its.length
    · have hk' : (k : Int) < its.length := by omega
      obtain ⟨g, cur, rfl, hgc, hcells⟩ := item_cells H2.out hll hlt
      obtain ⟨hgl, i0, i1, i2, i3, i4, i5⟩ := hcells wr (HB.out.block g (blk_lt hgc))
      obtain ⟨hf1, fa, fb, fc, hf2⟩ := H4.out (l[k]'(by omega)) (List.getElem_mem _)
      rw [hf1] at i4
      rw [hf2] at i5
      generalize (l[k]'(by omega)).1.line = li at *
      generalize (l[k]'(by omega)).1.size = sz at *
      generalize (l[k]'(by omega)).1.upTo = up at *
      generalize (l[k]'(by omega)).1.align = al at *
      clear hcells hf1 hf2 hgc
      go_wp2_with fail
      first | (go_region_with fail) | fail
      all_goals go_wp2
      all_goals exact ⟨⟨k + 1, by omega, by go_num, rfl, (HB.out.alloc HB.out.size _).drew⟩, by simp [intOf]; omega⟩
    · have hk' : ¬ (k : Int) < its.length := by omega
      go_wp2
      go_ret
      exact ⟨rfl, HB.out⟩

end Go.Proofs.YtagkmgdjkailkaaGreatDoor
