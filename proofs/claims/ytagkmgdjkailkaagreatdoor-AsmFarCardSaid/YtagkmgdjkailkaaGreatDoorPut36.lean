/- asm: the unit of a source of lines of .long. asm: nothing is made long where nothing leads; places laid. Blocks: what stands from a head up to its end, where that is .rept, one line, .endr. -/
import Derived.Test.YtagkmgdjkailkaaGreatDoorPut35
import Derived.Test.YtagkmgdjkailkaaGreatDoorPut30
import Derived.Test.YtagkmgdjkailkaaGreatDoorPut27
import Derived.Test.YtagkmgdjkailkaaGreatDoorPut34
import Derived.Test.YtagkmgdjkailkaaGreatDoorPut33
namespace Go.Proofs.YtagkmgdjkailkaaGreatDoor
open Go.RowKit

theorem lcells_at : ∀ (ps : List (Sc.Ln × Value)) (i : Nat) (h : i < ps.length), (Sc.lcells ps)[i * 2]? = some (.int .i64 ps[i].1.pos) ∧ (Sc.lcells ps)[i * 2 + 1]? = some ps[i].2
  | [], i, h => by simp at h
  | p :: r, 0, h => by simp [Sc.lcells]
  | p :: r, i + 1, h => by
    have ih := lcells_at r i (by simpa using h)
    have e : Sc.lcells (p :: r) = [.int .i64 p.1.pos, p.2] ++ Sc.lcells r := by simp [Sc.lcells]
    rw [e, show (i + 1) * 2 = 2 + i * 2 by omega]
    simp only [List.getElem_cons_succ]
    refine ⟨?_, ?_⟩
    · rw [List.getElem?_append_right (by simp)]; simpa using ih.1
    · rw [List.getElem?_append_right (by simp; omega)]; simpa [show 2 + i * 2 + 1 - 2 = i * 2 + 1 by omega] using ih.2

theorem lin_of {w : World} {base : Nat} {v : Value} {ps : List (Sc.Ln × Value)} (h : Sc.LOwn w base v ps) : LIn w v (ps.map (·.1)) := by
  rcases id h.row.2 with ⟨hv, h0⟩ | ⟨g, cap, cur, rfl, hg, hgg, hle, hm, rest⟩
  · exact ⟨none, 0, by rw [hv]; simp [h0], fun h => by simp at h; omega⟩
  · refine ⟨some ⟨g, 0, none⟩, cap, by simp, fun _ => ⟨g, 0, rfl, blk_lt hgg, fun i hi => ?_⟩⟩
    have hi' : i < ps.length := by simpa using hi
    obtain ⟨a, b⟩ := lcells_at ps i hi'
    have hadd : ∀ j, (⟨g, 0, none⟩ : Addr).add j = ⟨g, 0 + j, none⟩ := fun j => by unfold Addr.add; split <;> simp_all
    have k0 := h.row.cells rfl _ _ a
    have k1 := h.row.cells rfl _ _ b
    rw [hadd] at k0 k1
    simp only [List.getElem_map]
    exact ⟨ps[i].2, k0, k1, Sc.reads_of_owns (h.toks ps[i] (List.getElem_mem _))⟩

/-- Lines with their numbers. -/
def numbered : Nat → List Int → List (Int × Int)
  | _, [] => []
  | k, n :: r => ((k : Int), n) :: numbered (k + 1) r
end Go.Proofs.YtagkmgdjkailkaaGreatDoor

namespace Go.Proofs.YtagkmgdjkailkaaGreatDoor
open Go.RowKit

set_option maxHeartbeats 4000000 in
set_option maxRecDepth 100000 in
theorem lengthen_none (gu B : Nat) (e nv lm pp pv rv : Value) (ln : Int) (its : List It) (w : World) (h : UR w B gu e ln nv lm pp pv rv its) (hn : its.length ≤ 100000) (hnf : ∀ x, x ∈ its → NoFar x) :
    Calls Tryz.prog 51 #[.pointer (some ⟨gu, 0, none⟩)] w fun r w' => r = .returned (.bool false) ∧ Below w.heap.size w w' := by
  obtain ⟨iv, l, h1, h2, h3, h4⟩ := h.its
  obtain ⟨ia, ic, rfl⟩ := row_shape h2
  have hll : l.length = its.length := by rw [← h3]; simp
  have c4 : w.cell? ⟨gu, 4, none⟩ = some (.slice ia its.length ic) := blk_cell h1 rfl
  have hg := blk_lt h1
  have H2 := Lib.hid h2
  have H4 : Hid (∀ p, p ∈ l → p.2.1 = .nilFunc ∧ ∃ a b c, p.2.2 = .func a b c) := fun p hp => ⟨(h4 p hp).noFar (hnf p.1 (by rw [← h3]; exact List.mem_map_of_mem hp)), (h4 p hp).shape.2⟩
  clear h h1 h2 h3 h4 hnf
  have hnn : ∀ W, (binOp .neq 128 .nilFunc .nilFunc).run Tryz.prog W = .ok (.bool false) W := fun W => by kernel_rfl
  go_enter Tryz.func51, Tryz.ntmps51
  go_wp2_with fail
  go_loopw [3, 11] (fun bv iv wr => ∃ k : Nat, k ≤ its.length ∧ iv = .int .i64 k ∧ bv = .bool false ∧ Hid (Below w.heap.size w wr)) (fun _ iv _ => its.length - (intOf iv).toNat)
  case atStart => exact ⟨0, Nat.zero_le _, rfl, rfl, Below.refl _ _⟩
  case round =>
    obtain ⟨k, hk, rfl, rfl, HB⟩ := hrel
    by_cases hlt : k < its.length
    · have hk' : (k : Int) < its.length := by omega
      obtain ⟨g, cur, rfl, hgc, hcells⟩ := item_cells H2.out hll hlt
      obtain ⟨hgl, i0, i1, i2, i3, i4, i5⟩ := hcells wr (HB.out.block g (blk_lt hgc))
      obtain ⟨hf1, fa, fb, fc, hf2⟩ := H4.out (l[k]'(by omega)) (List.getElem_mem _)
      rw [hf1] at i4
      rw [hf2] at i5
      generalize (l[k]'(by omega)).1.line = li at *
      generalize (l[k]'(by omega)).1.size = sz at *
      generalize (l[k]'(by omega)).1.upTo = up at *
      generalize (l[k]'(by omega)).1.align = al at *
      clear hcells hf1 hf2 hgc
      go_wp2_with fail
      go_region
      all_goals go_wp2
      all_goals exact ⟨⟨k + 1, by omega, by go_num, rfl, (HB.out.alloc HB.out.size _).drew⟩, by simp [intOf]; omega⟩
    · have hk' : ¬ (k : Int) < its.length := by omega
      go_wp2
      go_ret
      exact ⟨rfl, HB.out⟩

end Go.Proofs.YtagkmgdjkailkaaGreatDoor

namespace Go.Proofs.YtagkmgdjkailkaaGreatDoor
open Go.RowKit

def hdRept : ByteArray := ⟨#[46, 114, 101, 112, 116]⟩
def hdEndr : ByteArray := ⟨#[46, 101, 110, 100, 114]⟩

/-- Three lines: each one's text and number. -/
structure L3 (w : World) (b o : Nat) (v0 v1 v2 : Value) (p0 p1 p2 : Int) (t0 t1 t2 : List Tk) : Prop where
  lt : b < w.heap.size
  s0 : ∃ a n c, v0 = .slice a n c
  s1 : ∃ a n c, v1 = .slice a n c
  s2 : ∃ a n c, v2 = .slice a n c
  c0 : w.cell? ⟨b, o, none⟩ = some v0
  d0 : w.cell? ⟨b, o + 1, none⟩ = some (.int .i64 p0)
  c1 : w.cell? ⟨b, o + 2, none⟩ = some v1
  d1 : w.cell? ⟨b, o + 3, none⟩ = some (.int .i64 p1)
  c2 : w.cell? ⟨b, o + 4, none⟩ = some v2
  d2 : w.cell? ⟨b, o + 5, none⟩ = some (.int .i64 p2)
  r0 : PReads w v0 t0
  r1 : PReads w v1 t1
  r2 : PReads w v2 t2
theorem L3.go {w w' : World} {b o : Nat} {v0 v1 v2 : Value} {p0 p1 p2 : Int} {t0 t1 t2 : List Tk} (h : L3 w b o v0 v1 v2 p0 p1 p2 t0 t1 t2) (hb : Below w.heap.size w w') : L3 w' b o v0 v1 v2 p0 p1 p2 t0 t1 t2 :=
  ⟨Nat.lt_of_lt_of_le h.lt hb.size, h.s0, h.s1, h.s2, by rw [hb.cell (by exact h.lt)]; exact h.c0, by rw [hb.cell (by exact h.lt)]; exact h.d0, by rw [hb.cell (by exact h.lt)]; exact h.c1, by rw [hb.cell (by exact h.lt)]; exact h.d1, by rw [hb.cell (by exact h.lt)]; exact h.c2, by rw [hb.cell (by exact h.lt)]; exact h.d2, h.r0.below hb (Nat.le_refl _), h.r1.below hb (Nat.le_refl _), h.r2.below hb (Nat.le_refl _)⟩

theorem endOf_rept (w : World) : Calls Tryz.prog 143 #[.string hdRept] w fun r w' => r = .returned (.string hdEndr) ∧ w = w' := by
  unfold hdRept hdEndr
  go_enter Tryz.func143, Tryz.ntmps143
  go_wp2
  go_ret
  exact ⟨rfl, rfl⟩

set_option maxHeartbeats 2000000 in
theorem find_rept (b o n cap : Nat) (v0 v1 v2 : Value) (p0 p1 p2 : Int) (t0 t1 t2 : List Tk) (w : World) (h : L3 w b o v0 v1 v2 p0 p1 p2 t0 t1 t2) (hn : n + 3 ≤ 1000) (h0 : headS t0 = hdRept) (h1 : PlainHead (headS t1)) (h2 : headS t2 = hdEndr) :
    Calls Tryz.prog 106 #[.slice (some ⟨b, o, none⟩) (n + 3) cap] w fun r w' => r = .returned (.tuple #[.int .i64 2, .int .i64 2]) ∧ Below w.heap.size w w' := by
  have HH0 := Lib.hid fun W (hb : Below w.heap.size w W) => head_any v0 t0 W (h.r0.below hb (Nat.le_refl _))
  have HH1 := Lib.hid fun W (hb : Below w.heap.size w W) => head_any v1 t1 W (h.r1.below hb (Nat.le_refl _))
  have HH2 := Lib.hid fun W (hb : Below w.heap.size w W) => head_any v2 t2 W (h.r2.below hb (Nat.le_refl _))
  rw [h0] at HH0
  rw [h2] at HH2
  have HE := Lib.hid endOf_rept
  have HV := Lib.hid h
  obtain ⟨a0, n0, k0, rfl⟩ := h.s0
  obtain ⟨a1, n1, k1, rfl⟩ := h.s1
  obtain ⟨a2, n2, k2, rfl⟩ := h.s2
  have hlt := h.lt
  have c0 := h.c0
  have d0 := h.d0
  clear h h0 h2
  generalize headS t1 = s at *
  have q1 := h1 _ (List.mem_of_getElem? (show heads[1]? = _ from rfl))
  have q4 := h1 _ (List.mem_of_getElem? (show heads[4]? = _ from rfl))
  have q6 := h1 _ (List.mem_of_getElem? (show heads[6]? = _ from rfl))
  unfold hdRept hdEndr at *
  clear h1
  go_enter Tryz.func106, Tryz.ntmps106
  go_wp2_with (first | (go_at_call 73; refine (HH0.out _ (by go_grown)).mono ?_; rintro e w1 ⟨rfl, hb1⟩; have HB1 := Lib.hid hb1; clear hb1) | (go_at_call 143; refine (HE.out _).mono ?_; rintro e w2 ⟨rfl, rfl⟩))
  clear HE c0 d0
  go_loopw [6, 7, 19] (fun mv ov iv wr => ∃ k : Nat, k ≤ 2 ∧ iv = .int .i64 k ∧ mv = .int .i64 0 ∧ ov = .int .i64 (if k = 0 then 0 else 1) ∧ Hid (Below w.heap.size w wr)) (fun _ _ iv _ => 3 - (intOf iv).toNat)
  case atStart => exact ⟨0, by omega, rfl, rfl, rfl, HB1⟩
  case round =>
    obtain ⟨k, hk, rfl, rfl, rfl, HB⟩ := hrel
    have hv := HV.out.go (w' := wr)
    have hV := HV.out
    have hz : b < wr.heap.size := Nat.lt_of_lt_of_le hlt HB.out.size
    have e0 := (HB.out.cell (p := ⟨b, o, none⟩) hlt).trans hV.c0
    have e1 := (HB.out.cell (p := ⟨b, o + 1, none⟩) hlt).trans hV.d0
    have e2 := (HB.out.cell (p := ⟨b, o + 2, none⟩) hlt).trans hV.c1
    have e3 := (HB.out.cell (p := ⟨b, o + 3, none⟩) hlt).trans hV.d1
    have e4 := (HB.out.cell (p := ⟨b, o + 4, none⟩) hlt).trans hV.c2
    have e5 := (HB.out.cell (p := ⟨b, o + 5, none⟩) hlt).trans hV.d2
    clear hV hv
    have hk3 : k = 0 ∨ k = 1 ∨ k = 2 := by omega
    have hzz := HB.out.size
    rcases hk3 with rfl | rfl | rfl
    · rw [if_pos rfl]
      go_wp2_with (go_at_call 73; refine (HH0.out _ (HB.out.alloc hzz _)).mono ?_; rintro e w3 ⟨rfl, hb3⟩; have HB3 := Lib.hid ((HB.out.alloc hzz _).trans (hb3.mono (by simp; omega))); clear hb3)
      exact ⟨⟨1, by omega, rfl, rfl, rfl, HB3⟩, by simp [intOf]⟩
    · rw [if_neg (by decide)]
      go_wp2_with (go_at_call 73; refine (HH1.out _ (HB.out.alloc hzz _)).mono ?_; rintro e w3 ⟨rfl, hb3⟩; have HB3 := Lib.hid ((HB.out.alloc hzz _).trans (hb3.mono (by simp; omega))); clear hb3)
      exact ⟨⟨2, by omega, rfl, rfl, rfl, HB3⟩, by simp [intOf]⟩
    · rw [if_neg (by decide)]
      go_wp2_with (go_at_call 73; refine (HH2.out _ (HB.out.alloc hzz _)).mono ?_; rintro e w3 ⟨rfl, hb3⟩; have HB3 := Lib.hid ((HB.out.alloc hzz _).trans (hb3.mono (by simp; omega))); clear hb3)
      go_returns
      exact ⟨rfl, HB3.out⟩

/-- A line that has no more than its head. -/
theorem more_no (v : Value) (p : Int) (x : Tk) (w : World) (h : PReads w v [x]) :
    Calls Tryz.prog 107 #[.agg #[v, .int .i64 p]] w fun r w' => r = .returned (.bool false) ∧ Below w.heap.size w w' := by
  have HB := Lib.hid fun W (hb : Below w.heap.size w W) => behind_any v [x] W (h.below hb (Nat.le_refl _))
  clear h
  go_enter Tryz.func107, Tryz.ntmps107
  go_wp2_with (go_at_call 77; refine (HB.out _ (by go_grown)).mono ?_; rintro e w1 ⟨⟨v', rfl, hv⟩, hb1⟩; obtain ⟨ad, cap, rfl, _⟩ := hv; have HB1 := Lib.hid hb1; clear hb1)
  go_ret
  exact ⟨rfl, Below.trans (by go_grown) (HB1.out.mono (by go_size))⟩

set_option maxHeartbeats 2000000 in
theorem cut_rept (b o n cap : Nat) (v0 v1 v2 : Value) (p0 p1 p2 : Int) (t0 t1 : List Tk) (x2 : Tk) (w : World) (h : L3 w b o v0 v1 v2 p0 p1 p2 t0 t1 [x2]) (hn : n + 3 ≤ 1000) (hc : n + 3 ≤ cap) (hcm : cap ≤ maxLen) (h0 : headS t0 = hdRept) (h1 : PlainHead (headS t1)) (h2 : headS [x2] = hdEndr) :
    Calls Tryz.prog 74 #[.slice (some ⟨b, o, none⟩) (n + 3) cap] w fun r w' => r = .returned (.tuple #[.agg #[v0, .int .i64 p0, .slice (some ⟨b, o + 2, none⟩) 1 (cap - 1), .slice none 0 0, .int .i64 3], .agg #[.int .i64 0, .int .i64 0]]) ∧ Below w.heap.size w w' := by
  have HFD := Lib.hid fun W (hb : Below w.heap.size w W) => find_rept b o n cap v0 v1 v2 p0 p1 p2 t0 t1 [x2] W (h.go hb) hn h0 h1 h2
  have HMO := Lib.hid fun W (hb : Below w.heap.size w W) => more_no v2 p2 x2 W (h.r2.below hb (Nat.le_refl _))
  have HV := Lib.hid h
  obtain ⟨a0, n0, k0, rfl⟩ := h.s0
  obtain ⟨a2, n2, k2, rfl⟩ := h.s2
  have hlt := h.lt
  clear h h0 h1 h2
  go_enter Tryz.func74, Tryz.ntmps74
  go_wp2_with (go_at_call 106; refine (HFD.out _ (by go_grown)).mono ?_; rintro e w1 ⟨rfl, hb1⟩; have hB1 : Below w.heap.size w w1 := Below.trans (by go_grown) (hb1.mono (by go_size)); have x0 : w1.heap[w.heap.size]? = some (.cells #[.slice none 0 0, .int .i64 0, .slice none 0 0, .slice none 0 0, .int .i64 0] 153 (0, 0)) := (by rw [hb1.block _ (by go_size), old2 _ _ (by go_size)]; exact new_at _ _ rfl); have x1 : w1.heap[w.heap.size + 1]? = some (.cells #[.int .i64 0, .int .i64 0] 31 (0, 0)) := (by rw [hb1.block _ (by go_size)]; exact new_at _ _ (by go_size)); have HB1 := Lib.hid hB1; have X0 := Lib.hid x0; have X1 := Lib.hid x1; have e0 := (hB1.cell (p := ⟨b, o, none⟩) hlt).trans HV.out.c0; have e1 := (hB1.cell (p := ⟨b, o + 1, none⟩) hlt).trans HV.out.d0; have e4 := (hB1.cell (p := ⟨b, o + 4, none⟩) hlt).trans HV.out.c2; have e5 : w1.cell? ⟨b, o + 4 + 1, none⟩ = some (.int .i64 p2) := (hB1.cell (p := ⟨b, o + 5, none⟩) hlt).trans HV.out.d2; have hb1' := Nat.lt_of_lt_of_le hlt hB1.size; clear hb1 hB1 x0 x1)
  refine (HMO.out _ HB1.out).mono ?_
  rintro e w2 ⟨rfl, hb2⟩
  have hB2 : Below w.heap.size w w2 := HB1.out.trans (hb2.mono HB1.out.size)
  have z0 := (hb2.block _ (blk_lt X0.out)).trans X0.out
  have z1 := (hb2.block _ (blk_lt X1.out)).trans X1.out
  replace e0 := (hb2.cell (p := ⟨b, o, none⟩) hb1').trans e0
  replace e1 := (hb2.cell (p := ⟨b, o + 1, none⟩) hb1').trans e1
  have HB2 := Lib.hid hB2
  have Z0 := Lib.hid z0
  have Z1 := Lib.hid z1
  have hz := blk_lt z1
  have hzb : b < w2.heap.size := Nat.lt_of_lt_of_le hb1' hb2.size
  obtain ⟨c, rfl⟩ : ∃ c, cap = c + 1 := ⟨cap - 1, by omega⟩
  have hc0 : c ≠ 0 := by omega
  clear e4 e5 hb1' hb2 hB2 z0 z1 HB1 X0 X1 HMO HFD
  go_wp2_with fail
  go_region
  have hb3 : Below w2.heap.size w2 ((w2.alloc (.cells #[.slice a0 n0 k0, .int .i64 p0, .slice (some ⟨b, o + 2, none⟩) 1 c, .slice none 0 0, .int .i64 3] 153)).drew) := (oalloc _ _).drew
  have z3 : ((w2.alloc (.cells #[.slice a0 n0 k0, .int .i64 p0, .slice (some ⟨b, o + 2, none⟩) 1 c, .slice none 0 0, .int .i64 3] 153)).drew).heap[w2.heap.size]? = some (.cells #[.slice a0 n0 k0, .int .i64 p0, .slice (some ⟨b, o + 2, none⟩) 1 c, .slice none 0 0, .int .i64 3] 153 (0, 0)) := new_at _ _ rfl
  generalize (w2.alloc (.cells #[.slice a0 n0 k0, .int .i64 p0, .slice (some ⟨b, o + 2, none⟩) 1 c, .slice none 0 0, .int .i64 3] 153)).drew = W3 at *
  have z0 := (hb3.block _ (blk_lt Z0.out)).trans Z0.out
  have z1 := (hb3.block _ (blk_lt Z1.out)).trans Z1.out
  have g0 : W3.cell? ⟨w.heap.size, 0, none⟩ = some (.slice none 0 0) := blk_cell z0 rfl
  have g1 : W3.cell? ⟨w.heap.size, 1, none⟩ = some (.int .i64 0) := blk_cell z0 rfl
  have g2 : W3.cell? ⟨w.heap.size, 2, none⟩ = some (.slice none 0 0) := blk_cell z0 rfl
  have g3 : W3.cell? ⟨w.heap.size, 3, none⟩ = some (.slice none 0 0) := blk_cell z0 rfl
  have g4 : W3.cell? ⟨w.heap.size, 4, none⟩ = some (.int .i64 0) := blk_cell z0 rfl
  have f0 : W3.frozen? ⟨w.heap.size, 0, none⟩ = false := blk_froz z0
  have f1 : W3.frozen? ⟨w.heap.size, 1, none⟩ = false := blk_froz z0
  have f2 : W3.frozen? ⟨w.heap.size, 2, none⟩ = false := blk_froz z0
  have f3 : W3.frozen? ⟨w.heap.size, 3, none⟩ = false := blk_froz z0
  have f4 : W3.frozen? ⟨w.heap.size, 4, none⟩ = false := blk_froz z0
  have q0 : W3.cell? ⟨w2.heap.size, 0, none⟩ = some (.slice a0 n0 k0) := blk_cell z3 rfl
  have q1 : W3.cell? ⟨w2.heap.size, 1, none⟩ = some (.int .i64 p0) := blk_cell z3 rfl
  have q2 : W3.cell? ⟨w2.heap.size, 2, none⟩ = some (.slice (some ⟨b, o + 2, none⟩) 1 c) := blk_cell z3 rfl
  have q3 : W3.cell? ⟨w2.heap.size, 3, none⟩ = some (.slice none 0 0) := blk_cell z3 rfl
  have q4 : W3.cell? ⟨w2.heap.size, 4, none⟩ = some (.int .i64 3) := blk_cell z3 rfl
  obtain ⟨⟨k0', k1'⟩, j0, j1⟩ := var2_of z1
  have hzw : w.heap.size < W3.heap.size := blk_lt z0
  have hzw1 : w.heap.size + 1 < W3.heap.size := blk_lt z1
  have HB3 := Lib.hid (HB2.out.trans (hb3.mono HB2.out.size))
  clear hb3 z0 z1 z3 Z0 Z1 HB2 e0 e1 HV
  go_wp2_with fail
  refine bodyPost_ret (v := .tuple #[.agg #[.slice a0 n0 k0, .int .i64 p0, .slice (some ⟨b, o + 2, none⟩) 1 c, .slice none 0 0, .int .i64 3], .agg #[.int .i64 0, .int .i64 0]]) (by simp [results, Tryz.results74, go_sem, g0, g1, g2, g3, g4, k0', k1']) rfl ⟨by simp, ?_⟩
  exact ((((((HB3.out.setCell (Nat.le_refl _) _).setCell (Nat.le_refl _) _).setCell (Nat.le_refl _) _).setCell (Nat.le_refl _) _).setCell (Nat.le_refl _) _).setCell (Nat.le_succ _) _).setCell (Nat.le_succ _) _

end Go.Proofs.YtagkmgdjkailkaaGreatDoor
