/- asm: places told. asm: places laid where nothing leads. asm: operands that are registers; values of a pool; numbers. asm: the form of operands. asm: an instruction's op by its name and its operands' form; the instruction filled. asm: the numbers of .byte, .word and .long. asm: one line of numbers read. -/
import Derived.Test.YtgjmbjahgcndnaaGreatDoorPut31
import Derived.Test.YtgjmbjahgcndnaaGreatDoorDsShelf
import Derived.Shelf.Strings.BuilderK
import Derived.Test.YtgjmbjahgcndnaaGreatDoorPut2
namespace Go.Proofs.YtgjmbjahgcndnaaGreatDoor
open Go.RowKit

theorem itC_at : ∀ (l : List (It × Value × Value)) (i : Nat) (h : i < l.length), (itC l)[i * 6]? = some (.int .i64 l[i].1.line) ∧ (itC l)[i * 6 + 1]? = some (.int .i64 l[i].1.size) ∧ (itC l)[i * 6 + 2]? = some (.int .i64 l[i].1.upTo) ∧ (itC l)[i * 6 + 3]? = some (.int .i64 l[i].1.align) ∧ (itC l)[i * 6 + 4]? = some l[i].2.1 ∧ (itC l)[i * 6 + 5]? = some l[i].2.2
  | [], i, h => by simp at h
  | t :: r, 0, h => by simp [itC]
  | t :: r, i + 1, h => by
    have ih := itC_at r i (by simpa using h)
    have e : itC (t :: r) = [.int .i64 t.1.line, .int .i64 t.1.size, .int .i64 t.1.upTo, .int .i64 t.1.align, t.2.1, t.2.2] ++ itC r := by simp [itC]
    rw [e, show (i + 1) * 6 = 6 + i * 6 by omega]
    simp only [List.getElem_cons_succ]
    refine ⟨?_, ?_, ?_, ?_, ?_, ?_⟩
    · rw [List.getElem?_append_right (by simp)]; simpa using ih.1
    · rw [List.getElem?_append_right (by simp; omega)]; simpa [show 6 + i * 6 + 1 - 6 = i * 6 + 1 by omega] using ih.2.1
    · rw [List.getElem?_append_right (by simp; omega)]; simpa [show 6 + i * 6 + 2 - 6 = i * 6 + 2 by omega] using ih.2.2.1
    · rw [List.getElem?_append_right (by simp; omega)]; simpa [show 6 + i * 6 + 3 - 6 = i * 6 + 3 by omega] using ih.2.2.2.1
    · rw [List.getElem?_append_right (by simp; omega)]; simpa [show 6 + i * 6 + 4 - 6 = i * 6 + 4 by omega] using ih.2.2.2.2.1
    · rw [List.getElem?_append_right (by simp; omega)]; simpa [show 6 + i * 6 + 5 - 6 = i * 6 + 5 by omega] using ih.2.2.2.2.2

/-- An item's cells, in any world that has the row's block. -/
theorem item_cells {w : World} {base : Nat} {ia : Option Addr} {n ic : Nat} {l : List (It × Value × Value)} (h : w.ownsRow base 198 6 (.slice ia n ic) n (itC l)) (hl : l.length = n) {i : Nat} (hi : i < n) :
    ∃ g cur, ia = some ⟨g, 0, none⟩ ∧ w.heap[g]? = some (.cells cur 198 (0, 0)) ∧ ∀ W : World, W.heap[g]? = w.heap[g]? → g < W.heap.size ∧ W.cell? ⟨g, i * 6, none⟩ = some (.int .i64 (l[i]'(by omega)).1.line) ∧ W.cell? ⟨g, i * 6 + 1, none⟩ = some (.int .i64 (l[i]'(by omega)).1.size) ∧ W.cell? ⟨g, i * 6 + 2, none⟩ = some (.int .i64 (l[i]'(by omega)).1.upTo) ∧ W.cell? ⟨g, i * 6 + 3, none⟩ = some (.int .i64 (l[i]'(by omega)).1.align) ∧ W.cell? ⟨g, i * 6 + 4, none⟩ = some (l[i]'(by omega)).2.1 ∧ W.cell? ⟨g, i * 6 + 5, none⟩ = some (l[i]'(by omega)).2.2 := by
  rcases id h.2 with ⟨hv, h0⟩ | ⟨g, cap, cur, hv, hg, hgg, _⟩
  · omega
  · injection hv with e1 _ _
    subst e1
    refine ⟨g, cur, rfl, hgg, fun W hW => ?_⟩
    have hcc : ∀ j, W.cell? ⟨g, j, none⟩ = w.cell? ⟨g, j, none⟩ := fun j => by simp only [World.cell?, hW]
    obtain ⟨a, b, c, d, e, f⟩ := itC_at l i (by omega)
    have hadd : ∀ j, (⟨g, 0, none⟩ : Addr).add j = ⟨g, 0 + j, none⟩ := fun j => by unfold Addr.add; split <;> simp_all
    have q0 := h.cells rfl _ _ a
    have q1 := h.cells rfl _ _ b
    have q2 := h.cells rfl _ _ c
    have q3 := h.cells rfl _ _ d
    have q4 := h.cells rfl _ _ e
    have q5 := h.cells rfl _ _ f
    rw [hadd, Nat.zero_add, ← hcc] at q0 q1 q2 q3 q4 q5
    exact ⟨blk_lt (hW.trans hgg), q0, q1, q2, q3, q4, q5⟩

theorem tell_step : ∀ (l : List It) (p : Int) (k : Nat) (h : k < l.length), (tellU p l).getD (k + 1) 0 = (tellU p l).getD k 0 + (l[k].size + (l[k].upTo - ((tellU p l).getD k 0).tmod l[k].upTo).tmod l[k].upTo)
  | [], p, k, h => by simp at h
  | x :: r, p, 0, h => by
    cases r <;> simp [tellU]
  | x :: r, p, k + 1, h => by
    have := tell_step r (p + (x.size + (x.upTo - p.tmod x.upTo).tmod x.upTo)) k (by simpa using h)
    simp only [tellU, List.getD_cons_succ, List.getElem_cons_succ]
    exact this

/-- An item that may be laid. -/
def Laid1 (x : It) : Prop := 0 ≤ x.size ∧ x.size ≤ 6 ∧ 1 ≤ x.upTo ∧ x.upTo ≤ 16

theorem tell_bounds : ∀ (l : List It) (p : Int) (k : Nat), 0 ≤ p → (∀ x, x ∈ l → Laid1 x) → k ≤ l.length → 0 ≤ (tellU p l).getD k 0 ∧ (tellU p l).getD k 0 ≤ p + 22 * k
  | [], p, k, hp, _, hk => by
    obtain rfl : k = 0 := by simpa using hk
    simp [tellU, hp]
  | x :: r, p, 0, hp, _, _ => by simp [tellU, hp]
  | x :: r, p, k + 1, hp, hx, hk => by
    obtain ⟨h1, h2, h3, h4⟩ := hx x (by simp)
    have ha : 0 ≤ p.tmod x.upTo ∧ p.tmod x.upTo < x.upTo := ⟨Int.tmod_nonneg _ hp, Int.tmod_lt_of_pos _ (by omega)⟩
    have hb : 0 ≤ (x.upTo - p.tmod x.upTo).tmod x.upTo ∧ (x.upTo - p.tmod x.upTo).tmod x.upTo < x.upTo := ⟨Int.tmod_nonneg _ (by omega), Int.tmod_lt_of_pos _ (by omega)⟩
    have := tell_bounds r (p + (x.size + (x.upTo - p.tmod x.upTo).tmod x.upTo)) k (by omega) (fun y hy => hx y (by simp [hy])) (by simpa using hk)
    simp only [tellU, List.getD_cons_succ]
    omega

/-- Places in memory: as many as are told. -/
def PlR (W : World) (gp n k : Nat) (ps : List Int) : Prop := ∃ cs : Array Value, W.heap[gp]? = some (.cells cs 3 (0, 0)) ∧ cs.size = n + 1 ∧ (∀ i, i ≤ n → ∃ z : Int, cs[i]? = some (.int .i64 z)) ∧ ∀ i, i < k → cs[i]? = some (.int .i64 (ps.getD i 0))
theorem PlR.set {W : World} {gp n k : Nat} {ps : List Int} (h : PlR W gp n k ps) (hk : k ≤ n) {z : Int} (hz : z = ps.getD k 0) : PlR (W.setCell ⟨gp, k, none⟩ (.int .i64 z)) gp n (k + 1) ps := by
  obtain ⟨cs, h1, h2, h3, h4⟩ := h
  refine ⟨_, blk_set h1, by simpa using h2, fun i hi => ?_, fun i hi => ?_⟩
  · by_cases e : i = k
    · subst e; exact ⟨z, Array.getElem?_setIfInBounds_self_of_lt (by omega)⟩
    · rw [Array.getElem?_setIfInBounds_ne (by omega)]; exact h3 i hi
  · by_cases e : i = k
    · subst e; rw [Array.getElem?_setIfInBounds_self_of_lt (by omega), hz]
    · rw [Array.getElem?_setIfInBounds_ne (by omega)]; exact h4 i (by omega)

theorem PlR.go {W W' : World} {gp n k : Nat} {ps : List Int} (h : PlR W gp n k ps) (hb : Below W.heap.size W W') : PlR W' gp n k ps := by
  obtain ⟨cs, h1, h2⟩ := h
  exact ⟨cs, by rw [hb.block _ (blk_lt h1)]; exact h1, h2⟩

set_option maxHeartbeats 4000000 in
set_option maxRecDepth 100000 in
theorem tell_any (gu B gp : Nat) (e nv lm pp rv : Value) (ln : Int) (its : List It) (w : World) (h : UR w B gu e ln nv lm pp (.slice (some ⟨gp, 0, none⟩) (its.length + 1) (its.length + 1)) rv its) (hp : PlR w gp its.length 0 []) (hx : ∀ x, x ∈ its → Laid1 x) (hn : its.length ≤ 100000) :
    Calls Tryz.prog 97 #[.pointer (some ⟨gu, 0, none⟩)] w fun r w' => r = .returned (.tuple #[]) ∧ PlR w' gp its.length (its.length + 1) (tellU 0 its) ∧ w.grownBy w' (some gp) := by
  obtain ⟨iv, l, h1, h2, h3, h4⟩ := h.its
  obtain ⟨ia, ic, rfl⟩ := row_shape h2
  have hll : l.length = its.length := by rw [← h3]; simp
  have hne : gu ≠ gp := by
    intro e
    subst e
    obtain ⟨cs, k1, _⟩ := hp
    have := h1.symm.trans k1
    simp at this
  have c4 : w.cell? ⟨gu, 4, none⟩ = some (.slice ia its.length ic) := blk_cell h1 rfl
  have hg := blk_lt h1
  have H1 := Lib.hid h1
  have H2 := Lib.hid h2
  have H3 := Lib.hid h3
  have HX := Lib.hid hx
  have HP : Hid (PlR w gp its.length 0 (tellU 0 its)) := by
    obtain ⟨cs, k1, k2, k3, _⟩ := hp
    exact ⟨cs, k1, k2, k3, fun i hi => by omega⟩
  have H4 : Hid (∀ p, p ∈ l → (p.2.1 = .nilFunc ∨ ∃ a b c, p.2.1 = .func a b c) ∧ ∃ a b c, p.2.2 = .func a b c) := fun p hp => (h4 p hp).shape
  clear h h1 h2 h3 h4 hp hx
  go_enter Tryz.func97, Tryz.ntmps97
  go_wp2_with fail
  go_loopw [2, 10] (fun av iv wr => ∃ k : Nat, k ≤ its.length ∧ iv = .int .i64 k ∧ av = .int .i64 ((tellU 0 its).getD k 0) ∧ Hid (PlR wr gp its.length k (tellU 0 its)) ∧ Hid (w.grownBy wr (some gp))) (fun _ iv _ => its.length - (intOf iv).toNat)
  case atStart => exact ⟨0, Nat.zero_le _, rfl, by cases its <;> rfl, HP, World.grownBy.refl _ _⟩
  case round =>
    obtain ⟨k, hk, rfl, rfl, HQ, HG⟩ := hrel
    have HST := Lib.hid (tell_step its 0 k)
    have hbd := tell_bounds its 0 k (Int.le_refl _) HX.out hk
    have hu1 : wr.heap[gu]? = _ := (HG.out.block gu hg (by intro e; injection e with e; exact hne e)).trans H1.out
    have y4 : wr.cell? ⟨gu, 4, none⟩ = some (.slice ia its.length ic) := blk_cell hu1 rfl
    have y6 : wr.cell? ⟨gu, 6, none⟩ = some (.slice (some ⟨gp, 0, none⟩) (its.length + 1) (its.length + 1)) := blk_cell hu1 rfl
    have hg1 := blk_lt hu1
    obtain ⟨z, hz⟩ : ∃ z : Int, wr.cell? ⟨gp, k, none⟩ = some (.int .i64 z) := by
      obtain ⟨cs, k1, k2, k3, _⟩ := HQ.out
      obtain ⟨z, hz⟩ := k3 k hk
      exact ⟨z, blk_cell k1 hz⟩
    have hfz : wr.frozen? ⟨gp, k, none⟩ = false := by obtain ⟨cs, k1, _⟩ := HQ.out; exact blk_froz k1
    have hgp : gp < wr.heap.size := by obtain ⟨cs, k1, _⟩ := HQ.out; exact blk_lt k1
    obtain ⟨q, hq⟩ : ∃ q, (tellU 0 its).getD k 0 = q := ⟨_, rfl⟩
    have HPS := Lib.hid (HQ.out.set hk hq.symm)
    rw [hq] at hbd ⊢
    by_cases hlt : k < its.length
    · have hk' : (k : Int) < its.length := by omega
      have HS2 := Lib.hid (HST.out hlt)
      rw [hq] at HS2
      obtain ⟨g, cur, rfl, hgc, hcells⟩ := item_cells H2.out hll hlt
      have hgg : wr.heap[g]? = w.heap[g]? := HG.out.block g (blk_lt hgc) (by
        intro e; injection e with e; subst e
        obtain ⟨cs, k1, _⟩ := HP.out
        have := hgc.symm.trans k1
        simp at this)
      obtain ⟨hgl, i0, i1, i2, i3, i4, i5⟩ := hcells wr hgg
      have hlk : (l[k]'(by omega)).1 = its[k] := by
        have := H3.out
        subst this
        simp
      obtain ⟨x1, x2, x3, x4⟩ := HX.out its[k] (List.getElem_mem _)
      rw [hlk] at i0 i1 i2 i3
      generalize its[k].size = sz at *
      generalize its[k].upTo = up at *
      generalize its[k].line = li at *
      generalize its[k].align = al at *
      obtain ⟨hf1, fa, fb, fc, hf2⟩ := H4.out (l[k]'(by omega)) (List.getElem_mem _)
      rcases hf1 with hf1 | ⟨xa, xb, xc, hf1⟩
      all_goals
        rw [hf1] at i4
        rw [hf2] at i5
        clear hcells hq hf1 hf2 hlk
        have hup : up ≠ 0 := by omega
        have hr1 : 0 ≤ q.tmod up ∧ q.tmod up < up := ⟨Int.tmod_nonneg _ hbd.1, Int.tmod_lt_of_pos _ (by omega)⟩
        have hr2 : 0 ≤ (up - q.tmod up).tmod up ∧ (up - q.tmod up).tmod up < up := ⟨Int.tmod_nonneg _ (by omega), Int.tmod_lt_of_pos _ (by omega)⟩
        go_wp2_with fail
        go_quiet (fail)
        have ev : wrap64 (q + wrap64 (sz + (wrap64 (up - q % up)).tmod up)) = (tellU 0 its).getD (k + 1) 0 := by
          have e1 : q % up = q.tmod up := (Int.tmod_eq_emod_of_nonneg hbd.1).symm
          have e2 : wrap64 (up - q.tmod up) = up - q.tmod up := by unfold wrap64; omega
          rw [e1, e2, HS2.out]
          unfold wrap64
          omega
        have HEV := Lib.hid ev
        clear ev
        go_wp2
        refine ⟨⟨k + 1, by omega, by go_num, by rw [HEV.out], ?_, ?_⟩, by simp [intOf]; omega⟩
        · exact HPS.out.go (below_drewN (oalloc _ _) _)
        · exact gtrans (gtrans HG.out (gset _ _ _ _)) (gbelow _ (below_drewN (oalloc _ _) _) (Nat.le_refl _))
    · obtain rfl : k = its.length := by omega
      have hk' : ¬ ((its.length : Nat) : Int) < its.length := by omega
      go_wp2
      go_region
      all_goals exact bodyPost_end (v := .tuple #[]) (by simp [results, Tryz.results97, go_sem]) rfl ⟨rfl, HPS.out.go (Below.refl _ _).drew, gtrans (gtrans HG.out (gset _ _ _ _)) (gbelow _ (Below.refl _ _).drew (Nat.le_refl _))⟩

end Go.Proofs.YtgjmbjahgcndnaaGreatDoor

namespace Go.Proofs.YtgjmbjahgcndnaaGreatDoor
open Go.RowKit

theorem infoI : (Tryz.prog.info? 3).map (fun i => (i.zero, i.size, i.bytes)) = some (some (.int .i64 0), 1, 8) := by kernel_rfl
theorem makeI (n : Nat) (h : n ≤ 1000000) (w : World) : (Instr.makeSlice 22 (.int .i64 (n : Int)) (.int .i64 (n : Int))).run Tryz.prog w = .ok (.slice (some ⟨w.heap.size, 0, none⟩) n n) (w.alloc (.cells (madeCells #[.int .i64 0] n) 3)) :=
  run_make_row' 22 3 (.int .i64 0) 8 (by kernel_rfl) infoI rfl .i64 .i64 n (by omega) (by omega) w
theorem PlR.made (w : World) (n : Nat) : PlR (w.alloc (.cells (madeCells #[.int .i64 0] (n + 1)) 3)) w.heap.size n 0 [] := by
  refine ⟨_, new_at _ _ rfl, size_madeCells _ _, fun i hi => ⟨0, ?_⟩, fun i hi => by omega⟩
  rw [madeCells, Array.getElem?_map, Array.getElem?_range, if_pos (by omega)]
  simp [Nat.mod_one]

/-- lengthen where nothing leads: as its contract says (UcK). -/
def NoLong (gu B : Nat) (e nv lm pp rv : Value) (ln : Int) (its : List It) : Prop := ∀ pv w, UR w B gu e ln nv lm pp pv rv its → Calls Tryz.prog 98 #[.pointer (some ⟨gu, 0, none⟩)] w fun r w' => r = .returned (.bool false) ∧ Below w.heap.size w w'

/-- All blocks below a size but the unit's are as they were: what items keep is. -/
theorem GenR.fr {w w' : World} {gu : Nat} {c : Array Value} {x : It} {fa by' : Value} (h : GenR w gu x fa by') (hu : w.heap[gu]? = some (.cells c 141 (0, 0))) (hf : ∀ i, i < w.heap.size → i ≠ gu → w'.heap[i]? = w.heap[i]?) : GenR w' gu x fa by' := h.stays fun {q cs t} hq ht => by
  have h1 : t ≠ 141 := by rintro rfl; exact absurd ht (by decide)
  rw [hf q (blk_lt hq) (by intro e; subst e; rw [hu] at hq; injection hq with hq; injection hq with _ h2; exact h1 h2.symm)]
  exact hq
theorem UR.fr {w w' : World} {B gu : Nat} {e : Value} {ln : Int} {nv lm pp pv rv pv' rv' : Value} {its : List It} (h : UR w B gu e ln nv lm pp pv rv its) (hs : w.heap.size ≤ w'.heap.size) (hf : ∀ i, i < w.heap.size → i ≠ gu → w'.heap[i]? = w.heap[i]?)
    (hb : ∀ iv, w.heap[gu]? = some (.cells (uC e ln nv lm iv pp pv rv) 141 (0, 0)) → w'.heap[gu]? = some (.cells (uC e ln nv lm iv pp pv' rv') 141 (0, 0))) : UR w' B gu e ln nv lm pp pv' rv' its := by
  obtain ⟨iv, l, h1, h2, h3, h4⟩ := h.its
  refine ⟨h.lt, Nat.le_trans h.le hs, iv, l, hb iv h1, ⟨h2.1, ?_⟩, h3, fun p hp => (h4 p hp).fr h1 hf⟩
  rcases h2.2 with h5 | ⟨g, cap, cur, h5, h6, h7, h8⟩
  · exact .inl h5
  · exact .inr ⟨g, cap, cur, h5, h6, by rw [hf g (blk_lt h7) (by have := h.lt; omega)]; exact h7, h8⟩

set_option maxHeartbeats 2000000 in
theorem lay_any (gu B : Nat) (e nv lm pp pv rv : Value) (hpv : ∃ a b c, pv = .slice a b c) (ln : Int) (its : List It) (w : World) (h : UR w B gu e ln nv lm pp pv rv its) (hn : its.length ≤ 100000) (hx : ∀ x, x ∈ its → Laid1 x) (hNL : NoLong gu B e nv lm pp rv ln its) (hlast : (tellU 0 its).getD its.length 0 ≤ 8000) :
    Calls Tryz.prog 73 #[.pointer (some ⟨gu, 0, none⟩)] w fun r w' => r = .returned (.int .i64 0) ∧ (∃ gp, w.heap.size ≤ gp ∧ UR w' B gu e ln nv lm pp (.slice (some ⟨gp, 0, none⟩) (its.length + 1) (its.length + 1)) rv its ∧ PlR w' gp its.length (its.length + 1) (tellU 0 its)) ∧ Fr gu w.heap.size w w' := by
  obtain ⟨iv, l, h1, h2, h3, h4⟩ := id h.its
  obtain ⟨ia, ic, rfl⟩ := row_shape h2
  obtain ⟨pa, pb, pc, rfl⟩ := hpv
  have c4 : w.cell? ⟨gu, 4, none⟩ = some (.slice ia its.length ic) := blk_cell h1 rfl
  have c6 : w.cell? ⟨gu, 6, none⟩ = some (.slice pa pb pc) := blk_cell h1 rfl
  have f6 : w.frozen? ⟨gu, 6, none⟩ = false := blk_froz h1
  have hg := blk_lt h1
  have hmk : ∀ W, (Instr.makeSlice 22 (.int .i64 ((its.length : Int) + 1)) (.int .i64 ((its.length : Int) + 1))).run Tryz.prog W = .ok (.slice (some ⟨W.heap.size, 0, none⟩) (its.length + 1) (its.length + 1)) (W.alloc (.cells (madeCells #[.int .i64 0] (its.length + 1)) 3)) := fun W => makeI (its.length + 1) (by omega) W
  have HU := Lib.hid h
  have HX := Lib.hid hx
  have HNL := Lib.hid hNL
  clear h h1 h2 h3 h4 hx hNL
  go_enter Tryz.func73, Tryz.ntmps73
  go_wp2_with fail
  have hF0 : Fr gu w.heap.size w ((w.setCell ⟨gu, 6, none⟩ (.slice (some ⟨w.heap.size, 0, none⟩) (its.length + 1) (its.length + 1))).alloc (.cells (madeCells #[.int .i64 0] (its.length + 1)) 3)) := (Fr.of (gset _ _ _ _) (Nat.le_refl _)).trans (Fr.below ((oalloc _ _).mono (by simp)))
  have hP0 : PlR ((w.setCell ⟨gu, 6, none⟩ (.slice (some ⟨w.heap.size, 0, none⟩) (its.length + 1) (its.length + 1))).alloc (.cells (madeCells #[.int .i64 0] (its.length + 1)) 3)) w.heap.size its.length 0 [] := by
    have := PlR.made (w.setCell ⟨gu, 6, none⟩ (.slice (some ⟨w.heap.size, 0, none⟩) (its.length + 1) (its.length + 1))) its.length
    simpa using this
  have hB0 : ∀ iv, w.heap[gu]? = some (.cells (uC e ln nv lm iv pp (.slice pa pb pc) rv) 141 (0, 0)) → ((w.setCell ⟨gu, 6, none⟩ (.slice (some ⟨w.heap.size, 0, none⟩) (its.length + 1) (its.length + 1))).alloc (.cells (madeCells #[.int .i64 0] (its.length + 1)) 3)).heap[gu]? = some (.cells (uC e ln nv lm iv pp (.slice (some ⟨w.heap.size, 0, none⟩) (its.length + 1) (its.length + 1)) rv) 141 (0, 0)) := fun iv h => by
    rw [old2 _ _ (by simpa using hg)]
    exact blk_set h
  generalize (w.setCell ⟨gu, 6, none⟩ (.slice (some ⟨w.heap.size, 0, none⟩) (its.length + 1) (its.length + 1))).alloc (.cells (madeCells #[.int .i64 0] (its.length + 1)) 3) = W0 at *
  have hU0 : UR W0 B gu e ln nv lm pp (.slice (some ⟨w.heap.size, 0, none⟩) (its.length + 1) (its.length + 1)) rv its := HU.out.fr hF0.size hF0.block hB0
  have HT := Lib.hid (tell_any gu B w.heap.size e nv lm pp rv ln its W0 hU0 hP0 HX.out hn)
  have HAft : Hid (∀ w1, PlR w1 w.heap.size its.length (its.length + 1) (tellU 0 its) → W0.grownBy w1 (some w.heap.size) → UR w1 B gu e ln nv lm pp (.slice (some ⟨w.heap.size, 0, none⟩) (its.length + 1) (its.length + 1)) rv its ∧ Fr gu w.heap.size w w1) := fun w1 hp hg1 => by
    have hgb : w1.heap[gu]? = W0.heap[gu]? := hg1.block gu (Nat.lt_of_lt_of_le hg hF0.size) (by intro e; injection e with e; omega)
    have hF1 : Fr gu w.heap.size w w1 := hF0.trans ⟨hg1.os, hg1.tape, hg1.output, hg1.size, fun i hi h2 => hg1.block i (Nat.lt_of_lt_of_le hi hF0.size) (by intro e; injection e with e; omega)⟩
    exact ⟨HU.out.fr hF1.size hF1.block (fun iv h => hgb.trans (hB0 iv h)), hF1⟩
  clear hF0 hP0 hB0 hU0 c4 c6 f6 hmk
  refine wp_loop_rounds 1 ?_
  rw [rounds_succ]
  go_wp2_with (go_at_call 97; refine HT.out.mono ?_; rintro e' w1 ⟨rfl, hp1, hg1⟩; obtain ⟨hU1, hF1⟩ := HAft.out w1 hp1 hg1; obtain ⟨iv1, l1, k1, k2, _⟩ := id hU1.its; obtain ⟨ja, jc, rfl⟩ := row_shape k2; have d4 : w1.cell? ⟨gu, 4, none⟩ = some (.slice ja its.length jc) := blk_cell k1 rfl; have d6 : w1.cell? ⟨gu, 6, none⟩ = some (.slice (some ⟨w.heap.size, 0, none⟩) (its.length + 1) (its.length + 1)) := blk_cell k1 rfl; have hl1 : w1.cell? ⟨w.heap.size, its.length, none⟩ = some (.int .i64 ((tellU 0 its).getD its.length 0)) := (by obtain ⟨cs, q1, _, _, q4⟩ := hp1; exact blk_cell q1 (q4 its.length (by omega))); have hzg := blk_lt k1; have HU1 := Lib.hid hU1; have HF1 := Lib.hid hF1; have HP1 := Lib.hid hp1; clear hU1 hF1 hp1 hg1 k1 k2)
  have hlt : ¬ (8000 : Int) < (tellU 0 its).getD its.length 0 := by omega
  go_quiet (fail)
  go_wp2_with (go_at_call 98; refine (HNL.out _ _ (HU1.out.go (below_drewN (Below.refl _ _) _))).mono ?_; rintro e' w2 ⟨rfl, hb2⟩)
  go_returns
  have hb3 : Below w1.heap.size w1 w2 := (below_drewN (Below.refl _ _) _).trans hb2
  exact ⟨rfl, ⟨w.heap.size, Nat.le_refl _, HU1.out.go hb3, HP1.out.go hb3⟩, HF1.out.trans (Fr.below (hb3.mono HF1.out.size))⟩

end Go.Proofs.YtgjmbjahgcndnaaGreatDoor

namespace Go.Proofs.YtgjmbjahgcndnaaGreatDoor
open Go.RowKit

theorem lone_any (kd : ByteArray) (v : Value) (x : Tk) (w : World) (hG : Sc.Glob w) (h : PReads w v [x]) (hx : x.k = 1) (hr : 0 ≤ regU 1 x.t.data.toList) :
    Calls Tryz.prog 165 #[.string kd, v] w fun r w' => r = .returned (.tuple #[opV kd (regU 1 x.t.data.toList) ⟨#[]⟩ 0, .int .i64 0]) ∧ Below w.heap.size w w' := by
  have HN := Lib.hid fun W (hb : Below w.heap.size w W) => next_any v [x] W (h.below hb (Nat.le_refl _))
  have HR := Lib.hid fun W (hb : Below w.heap.size w W) => register_word x.n x.t W (hG.below hb hG.sz)
  obtain ⟨ad, cap, rfl, _⟩ := h
  generalize regU 1 x.t.data.toList = rg at *
  obtain ⟨k, n, t⟩ := x
  simp only at hx
  subst hx
  clear hG
  unfold opV
  unfold Tk.V tokV headT at HN
  unfold tokV at HR
  simp only [List.length_singleton] at *
  have hr' : ¬ rg < 0 := by omega
  go_enter Tryz.func165, Tryz.ntmps165
  go_wp2_with fail
  refine (HN.out _ (oalloc _ _)).mono ?_
  rintro e w1 ⟨⟨v', rfl, hv⟩, hb1⟩
  obtain ⟨ad', cap', rfl, _⟩ := hv
  obtain ⟨hB1, hz1, xr⟩ := box_keep hb1
  simp only [List.tail_cons, List.length_nil]
  have HB1 := Lib.hid hB1
  have XR := Lib.hid xr
  clear hb1 hB1 xr HN
  go_wp2_with fail
  refine (HR.out _ (HB1.out.alloc HB1.out.size _)).mono ?_
  rintro e w2 ⟨rfl, hb2⟩
  have hB2 : Below w1.heap.size w1 w2 := (oalloc _ _).trans (hb2.mono (by simp))
  have xr := (hB2.block _ hz1).trans XR.out
  have HB2 := Lib.hid (HB1.out.trans (hB2.mono HB1.out.size))
  have hz2 := Nat.lt_of_lt_of_le hz1 hB2.size
  obtain ⟨⟨⟨u0, u1⟩, u2, u3⟩, ⟨f0, f1⟩, f2, f3⟩ := var4_of xr
  clear hb2 hB2 xr HR XR
  go_wp2_with fail
  exact bodyPost_ret (v := .tuple #[.agg #[.string kd, .int .i64 rg, .string ⟨#[]⟩, .int .i64 0], .int .i64 0]) (by simp [results, Tryz.results165, go_sem, u0, u1, u2, u3]) rfl ⟨rfl, (((HB2.out.setCell (Nat.le_refl _) _).setCell (Nat.le_refl _) _).setCell (Nat.le_refl _) _).setCell (Nat.le_refl _) _⟩

/-- GENERATED by gen/ea.py. An operand that is a register. -/
theorem operand_reg (gu : Nat) (v : Value) (x : Tk) (w : World) (hG : Sc.Glob w) (h : PReads w v [x]) (hx : x.k = 1) (hr : 0 ≤ regU 1 x.t.data.toList) :
    Calls Tryz.prog 131 #[.pointer (some ⟨gu, 0, none⟩), v] w fun r w' => r = .returned (.tuple #[opV ⟨#[114]⟩ (regU 1 x.t.data.toList) ⟨#[]⟩ 0, .int .i64 0]) ∧ Below w.heap.size w w' := by
  have HN := Lib.hid fun W (hb : Below w.heap.size w W) => next_any v [x] W (h.below hb (Nat.le_refl _))
  have HE := Lib.hid fun W (hb : Below w.heap.size w W) => lone_any ⟨#[114]⟩ v x W (hG.below hb hG.sz) (h.below hb (Nat.le_refl _)) hx hr
  have HR := Lib.hid fun W (hb : Below w.heap.size w W) => register_word x.n x.t W (hG.below hb hG.sz)
  have HSF : Hid (∀ s W, Calls Tryz.prog 125 #[tokV 1 x.n x.t, .string s] W fun r w' => r = .returned (.bool false) ∧ Below W.heap.size W w') := fun s W => asign_any 1 x.n x.t s W
  obtain ⟨ad, cap, rfl, _⟩ := h
  generalize regU 1 x.t.data.toList = rg at *
  obtain ⟨k, n, t⟩ := x
  simp only at hx
  subst hx
  clear hG
  unfold opV at *
  unfold Tk.V tokV headT at *
  simp only [List.length_singleton] at *
  go_enter Tryz.func131, Tryz.ntmps131
  go_wp2_with fail
  refine (HN.out _ (oalloc _ _)).mono ?_
  rintro e w1 ⟨⟨v', rfl, hv⟩, hb1⟩
  obtain ⟨ad', cap', rfl, _⟩ := id hv
  obtain ⟨hB1, hz1, xr⟩ := box_keep hb1
  simp only [List.tail_cons, List.length_nil] at *
  clear hb1 hv
  go_wp2_with fail
  refine (HSF.out _ _ ).mono ?_
  rintro e w2 ⟨rfl, hb2⟩
  obtain ⟨hB2, hz2, xt⟩ := box_keep hb2
  have t0 : w2.cell? ⟨w1.heap.size, 0, none⟩ = some (.int .i64 1) := blk_cell xt rfl
  have t1 : w2.cell? ⟨w1.heap.size, 1, none⟩ = some (.int .i64 n) := blk_cell xt rfl
  have t2 : w2.cell? ⟨w1.heap.size, 2, none⟩ = some (.string t) := blk_cell xt rfl
  replace xr := (hB2.block _ (by omega)).trans xr
  have HB := Lib.hid (hB1.trans (hB2.mono (by omega)))
  clear hb2 hB2 hB1
  go_wp2_with fail
  refine (HSF.out _ _ ).mono ?_
  rintro e w3 ⟨rfl, hb3⟩
  replace xt := (hb3.block _ (by omega)).trans xt
  replace xr := (hb3.block _ (by omega)).trans xr
  replace t0 := (hb3.cell (by show w1.heap.size < w2.heap.size; omega)).trans t0
  replace t1 := (hb3.cell (by show w1.heap.size < w2.heap.size; omega)).trans t1
  replace t2 := (hb3.cell (by show w1.heap.size < w2.heap.size; omega)).trans t2
  replace HB := Lib.hid (HB.out.trans (hb3.mono (by omega)))
  have hz3 : w1.heap.size < w3.heap.size := Nat.lt_of_lt_of_le (by omega) hb3.size
  clear hb3
  go_wp2_with fail
  refine (HSF.out _ _ ).mono ?_
  rintro e w4 ⟨rfl, hb4⟩
  replace xt := (hb4.block _ (by omega)).trans xt
  replace xr := (hb4.block _ (by omega)).trans xr
  replace t0 := (hb4.cell (by show w1.heap.size < w3.heap.size; omega)).trans t0
  replace t1 := (hb4.cell (by show w1.heap.size < w3.heap.size; omega)).trans t1
  replace t2 := (hb4.cell (by show w1.heap.size < w3.heap.size; omega)).trans t2
  replace HB := Lib.hid (HB.out.trans (hb4.mono (by omega)))
  have hz4 : w1.heap.size < w4.heap.size := Nat.lt_of_lt_of_le (by omega) hb4.size
  clear hb4
  go_wp2_with fail
  refine (HR.out _ HB.out).mono ?_
  rintro e w5 ⟨rfl, hb5⟩
  replace xt := (hb5.block _ (by omega)).trans xt
  replace xr := (hb5.block _ (by omega)).trans xr
  replace t0 := (hb5.cell (by show w1.heap.size < w4.heap.size; omega)).trans t0
  replace t1 := (hb5.cell (by show w1.heap.size < w4.heap.size; omega)).trans t1
  replace t2 := (hb5.cell (by show w1.heap.size < w4.heap.size; omega)).trans t2
  replace HB := Lib.hid (HB.out.trans (hb5.mono (by omega)))
  have hz5 : w1.heap.size < w5.heap.size := Nat.lt_of_lt_of_le (by omega) hb5.size
  clear hb5
  have XR := Lib.hid xr
  clear xr xt t0 t1 t2
  go_wp2_with fail
  refine (HE.out _ HB.out).mono ?_
  rintro e w6 ⟨rfl, hb6⟩
  obtain ⟨⟨⟨u0, u1⟩, u2, u3⟩, ⟨f0, f1⟩, f2, f3⟩ := var4_of ((hb6.block _ (by omega)).trans XR.out)
  have hz6 : w.heap.size < w6.heap.size := Nat.lt_of_lt_of_le (by omega) hb6.size
  replace HB := Lib.hid (HB.out.trans (hb6.mono (by omega)))
  clear hb6
  go_wp2_with fail
  exact bodyPost_ret (v := .tuple #[.agg #[.string ⟨#[114]⟩, .int .i64 rg, .string ⟨#[]⟩, .int .i64 0], .int .i64 0]) (by simp [results, Tryz.results131, go_sem, u0, u1, u2, u3]) rfl ⟨rfl, (((HB.out.setCell (Nat.le_refl _) _).setCell (Nat.le_refl _) _).setCell (Nat.le_refl _) _).setCell (Nat.le_refl _) _⟩

/-- An operand that is a number, '#' ahead of it. -/
theorem operand_num (gu : Nat) (v : Value) (sn : Int) (x : Tk) (nm : ByteArray) (n : Int) (hk : AtomK x.k x.n x.t nm n) (w : World) (hL : Xp.KLaid w) (h : PReads w v [⟨3, sn, ⟨#[35]⟩⟩, x]) (c0 : w.cell? ⟨gu, 0, none⟩ = some (.slice none 0 0)) :
    Calls Tryz.prog 131 #[.pointer (some ⟨gu, 0, none⟩), v] w fun r w' => r = .returned (.tuple #[opV ⟨#[35]⟩ 0 nm n, .int .i64 0]) ∧ Below w.heap.size w w' := by
  have hg : gu < w.heap.size := World.block_lt_of_cell? w _ c0
  have HN := Lib.hid fun W (hb : Below w.heap.size w W) => next_any v [⟨3, sn, ⟨#[35]⟩⟩, x] W (h.below hb (Nat.le_refl _))
  have HE0 := Lib.hid fun v' W (hb : Below w.heap.size w W) (hv : PReads W v' [x]) => aexpr_atom gu ⟨#[35]⟩ v' x nm n hk W (KL.below hL hb) hv (by rw [hb.cell (by exact hg)]; exact c0)
  have HST : Hid (∀ W, Calls Tryz.prog 125 #[tokV 3 sn ⟨#[35]⟩, .string ⟨#[35]⟩] W fun r w' => r = .returned (.bool true) ∧ Below W.heap.size W w') := fun W => by
    have := asign_any 3 sn ⟨#[35]⟩ ⟨#[35]⟩ W
    rwa [show ((3 : Int) == 3 && (⟨#[35]⟩ : ByteArray).toList == (⟨#[35]⟩ : ByteArray).toList) = true by simp] at this
  obtain ⟨ad, cap, rfl, _⟩ := h
  clear hL hk
  unfold opV at *
  unfold Tk.V tokV headT at *
  simp only [List.length_cons, List.length_nil] at *
  go_enter Tryz.func131, Tryz.ntmps131
  go_wp2_with fail
  refine (HN.out _ (oalloc _ _)).mono ?_
  rintro e w1 ⟨⟨v', rfl, hv⟩, hb1⟩
  obtain ⟨ad', cap', rfl, _⟩ := id hv
  obtain ⟨hB1, hz1, xr⟩ := box_keep hb1
  simp only [List.tail_cons, List.length_singleton] at *
  have HPV := Lib.hid hv
  have HBV := Lib.hid hb1
  clear hb1 hv
  go_wp2_with fail
  refine (HST.out _).mono ?_
  rintro e w2 ⟨rfl, hb2⟩
  obtain ⟨hB2, hz2, xt⟩ := box_keep hb2
  have t0 : w2.cell? ⟨w1.heap.size, 0, none⟩ = some (.int .i64 3) := blk_cell xt rfl
  have t1 : w2.cell? ⟨w1.heap.size, 1, none⟩ = some (.int .i64 sn) := blk_cell xt rfl
  have t2 : w2.cell? ⟨w1.heap.size, 2, none⟩ = some (.string ⟨#[35]⟩) := blk_cell xt rfl
  replace xr := (hB2.block _ (by omega)).trans xr
  have HB := Lib.hid (hB1.trans (hB2.mono (by omega)))
  replace HBV := Lib.hid (HBV.out.trans (hB2.mono HBV.out.size))
  clear hb2 hB2 hB1
  have XR := Lib.hid xr
  clear xr xt
  go_wp2_with fail
  refine (HE0.out _ _ HB.out (HPV.out.below HBV.out (Nat.le_refl _))).mono ?_
  rintro e w6 ⟨rfl, hb6⟩
  obtain ⟨⟨⟨u0, u1⟩, u2, u3⟩, ⟨f0, f1⟩, f2, f3⟩ := var4_of ((hb6.block _ (by omega)).trans XR.out)
  have hz6 : w.heap.size < w6.heap.size := Nat.lt_of_lt_of_le (by omega) hb6.size
  replace HB := Lib.hid (HB.out.trans (hb6.mono (by omega)))
  clear hb6
  go_wp2_with fail
  exact bodyPost_ret (v := .tuple #[.agg #[.string ⟨#[35]⟩, .int .i64 0, .string nm, .int .i64 n], .int .i64 0]) (by simp [results, Tryz.results131, go_sem, u0, u1, u2, u3]) rfl ⟨rfl, (((HB.out.setCell (Nat.le_refl _) _).setCell (Nat.le_refl _) _).setCell (Nat.le_refl _) _).setCell (Nat.le_refl _) _⟩

/-- An operand that is a value of a pool. -/
theorem operand_pool (gu : Nat) (v : Value) (sn : Int) (x : Tk) (nm : ByteArray) (n : Int) (hk : AtomK x.k x.n x.t nm n) (w : World) (hL : Xp.KLaid w) (h : PReads w v [⟨3, sn, ⟨#[61]⟩⟩, x]) (c0 : w.cell? ⟨gu, 0, none⟩ = some (.slice none 0 0)) :
    Calls Tryz.prog 131 #[.pointer (some ⟨gu, 0, none⟩), v] w fun r w' => r = .returned (.tuple #[opV ⟨#[61]⟩ 0 nm n, .int .i64 0]) ∧ Below w.heap.size w w' := by
  have hg : gu < w.heap.size := World.block_lt_of_cell? w _ c0
  have HN := Lib.hid fun W (hb : Below w.heap.size w W) => next_any v [⟨3, sn, ⟨#[61]⟩⟩, x] W (h.below hb (Nat.le_refl _))
  have HE0 := Lib.hid fun v' W (hb : Below w.heap.size w W) (hv : PReads W v' [x]) => aexpr_atom gu ⟨#[61]⟩ v' x nm n hk W (KL.below hL hb) hv (by rw [hb.cell (by exact hg)]; exact c0)
  have HST : Hid (∀ W, Calls Tryz.prog 125 #[tokV 3 sn ⟨#[61]⟩, .string ⟨#[61]⟩] W fun r w' => r = .returned (.bool true) ∧ Below W.heap.size W w') := fun W => by
    have := asign_any 3 sn ⟨#[61]⟩ ⟨#[61]⟩ W
    rwa [show ((3 : Int) == 3 && (⟨#[61]⟩ : ByteArray).toList == (⟨#[61]⟩ : ByteArray).toList) = true by simp] at this
  have HSF : Hid (∀ W, Calls Tryz.prog 125 #[tokV 3 sn ⟨#[61]⟩, .string ⟨#[35]⟩] W fun r w' => r = .returned (.bool false) ∧ Below W.heap.size W w') := fun W => by
    have := asign_any 3 sn ⟨#[61]⟩ ⟨#[35]⟩ W
    rwa [show ((3 : Int) == 3 && (⟨#[61]⟩ : ByteArray).toList == (⟨#[35]⟩ : ByteArray).toList) = false by rw [ByteArray.toList_eq, ByteArray.toList_eq]; decide] at this
  obtain ⟨ad, cap, rfl, _⟩ := h
  clear hL hk
  unfold opV at *
  unfold Tk.V tokV headT at *
  simp only [List.length_cons, List.length_nil] at *
  go_enter Tryz.func131, Tryz.ntmps131
  go_wp2_with fail
  refine (HN.out _ (oalloc _ _)).mono ?_
  rintro e w1 ⟨⟨v', rfl, hv⟩, hb1⟩
  obtain ⟨ad', cap', rfl, _⟩ := id hv
  obtain ⟨hB1, hz1, xr⟩ := box_keep hb1
  simp only [List.tail_cons, List.length_singleton] at *
  have HPV := Lib.hid hv
  have HBV := Lib.hid hb1
  clear hb1 hv
  go_wp2_with fail
  refine (HSF.out _).mono ?_
  rintro e w2 ⟨rfl, hb2⟩
  obtain ⟨hB2, hz2, xt⟩ := box_keep hb2
  have t0 : w2.cell? ⟨w1.heap.size, 0, none⟩ = some (.int .i64 3) := blk_cell xt rfl
  have t1 : w2.cell? ⟨w1.heap.size, 1, none⟩ = some (.int .i64 sn) := blk_cell xt rfl
  have t2 : w2.cell? ⟨w1.heap.size, 2, none⟩ = some (.string ⟨#[61]⟩) := blk_cell xt rfl
  replace xr := (hB2.block _ (by omega)).trans xr
  have HB := Lib.hid (hB1.trans (hB2.mono (by omega)))
  replace HBV := Lib.hid (HBV.out.trans (hB2.mono HBV.out.size))
  clear hb2 hB2 hB1
  go_wp2_with fail
  refine (HST.out _).mono ?_
  rintro e w3 ⟨rfl, hb3⟩
  replace xt := (hb3.block _ (by omega)).trans xt
  replace xr := (hb3.block _ (by omega)).trans xr
  replace t0 := (hb3.cell (by show w1.heap.size < w2.heap.size; omega)).trans t0
  replace t1 := (hb3.cell (by show w1.heap.size < w2.heap.size; omega)).trans t1
  replace t2 := (hb3.cell (by show w1.heap.size < w2.heap.size; omega)).trans t2
  replace HB := Lib.hid (HB.out.trans (hb3.mono (by omega)))
  replace HBV := Lib.hid (HBV.out.trans (hb3.mono HBV.out.size))
  have hz3 : w1.heap.size < w3.heap.size := Nat.lt_of_lt_of_le (by omega) hb3.size
  clear hb3
  have XR := Lib.hid xr
  clear xr xt
  go_wp2_with fail
  refine (HE0.out _ _ HB.out (HPV.out.below HBV.out (Nat.le_refl _))).mono ?_
  rintro e w6 ⟨rfl, hb6⟩
  obtain ⟨⟨⟨u0, u1⟩, u2, u3⟩, ⟨f0, f1⟩, f2, f3⟩ := var4_of ((hb6.block _ (by omega)).trans XR.out)
  have hz6 : w.heap.size < w6.heap.size := Nat.lt_of_lt_of_le (by omega) hb6.size
  replace HB := Lib.hid (HB.out.trans (hb6.mono (by omega)))
  clear hb6
  go_wp2_with fail
  exact bodyPost_ret (v := .tuple #[.agg #[.string ⟨#[61]⟩, .int .i64 0, .string nm, .int .i64 n], .int .i64 0]) (by simp [results, Tryz.results131, go_sem, u0, u1, u2, u3]) rfl ⟨rfl, (((HB.out.setCell (Nat.le_refl _) _).setCell (Nat.le_refl _) _).setCell (Nat.le_refl _) _).setCell (Nat.le_refl _) _⟩

end Go.Proofs.YtgjmbjahgcndnaaGreatDoor

namespace Go.Proofs.YtgjmbjahgcndnaaGreatDoor
open Go.RowKit

/-- Operands that lie in memory. -/
def OpsR (w : World) (oa : Option Addr) (ops : List Opd) : Prop := 0 < ops.length → ∃ b, oa = some ⟨b, 0, none⟩ ∧ ∃ cur, w.heap[b]? = some (.cells cur 235 (0, 0)) ∧ ∀ i (h : i < ops.length), cur[i * 4]? = some (.string ops[i].kd) ∧ cur[i * 4 + 1]? = some (.int .i64 ops[i].r) ∧ cur[i * 4 + 2]? = some (.string ops[i].nm) ∧ cur[i * 4 + 3]? = some (.int .i64 ops[i].n)
theorem OpsR.keep {w w' : World} {oa : Option Addr} {ops : List Opd} (h : OpsR w oa ops) (k : ∀ {q : Nat} {c : Array Value}, w.heap[q]? = some (.cells c 235 (0, 0)) → w'.heap[q]? = some (.cells c 235 (0, 0))) : OpsR w' oa ops := fun h0 => by
  obtain ⟨b, e, cur, h1, h2⟩ := h h0
  exact ⟨b, e, cur, k h1, h2⟩
theorem OpsR.of_row {w : World} {B : Nat} {oa : Option Addr} {oc : Nat} {ops : List Opd} (h : w.ownsRow B 235 4 (.slice oa ops.length oc) ops.length (opC ops)) : OpsR w oa ops := fun h0 => by
  rcases id h.2 with ⟨hv, h1⟩ | ⟨g, cap, cur, hv, _, hgg, _⟩
  · omega
  · injection hv with e1 _ _
    subst e1
    refine ⟨g, rfl, cur, hgg, fun i hi => ?_⟩
    obtain ⟨a, b, c, d⟩ := opC_at ops i hi
    have hadd : ∀ j, (⟨g, 0, none⟩ : Addr).add j = ⟨g, 0 + j, none⟩ := fun j => by unfold Addr.add; split <;> simp_all
    have key : ∀ j v, w.cell? ⟨g, j, none⟩ = some v → cur[j]? = some v := fun j v hv => by simpa [World.cell?, hgg] using hv
    have q0 := h.cells rfl _ _ a
    have q1 := h.cells rfl _ _ b
    have q2 := h.cells rfl _ _ c
    have q3 := h.cells rfl _ _ d
    rw [hadd, Nat.zero_add] at q0 q1 q2 q3
    exact ⟨key _ _ q0, key _ _ q1, key _ _ q2, key _ _ q3⟩

/-- The kinds, one behind the other. -/
def formU (ops : List Opd) : List UInt8 := ops.flatMap fun o => o.kd.data.toList

theorem bldF_below {w w' : World} {B b : Nat} {bs : List Value} (h : Lib.IsBuilderF 293 5 B b bs w) (hb : Below w.heap.size w w') : Lib.IsBuilderF 293 5 B b bs w' := by
  have hg : w.grownBy w' none := gbelow none hb (Nat.le_refl _)
  have one : ∀ p, Lib.BuilderAtF 293 5 B b p bs w → Lib.BuilderAtF 293 5 B b p bs w' := by
    rintro p ⟨hB, v, hk, hown, hne⟩
    refine ⟨hB, v, ?_, hown.kept hg ?_, hne⟩
    · rw [hb.block b (Array.getElem?_eq_some_iff.1 hk).1]; exact hk
    · cases v.ownBlock with
      | none => exact Or.inl rfl
      | some _ => exact Or.inr (by simp)
  exact h.elim (fun x => Or.inl (one _ x)) (fun x => Or.inr (one _ x))

set_option maxHeartbeats 4000000 in
theorem formOf_any (ops : List Opd) (oa : Option Addr) (oc : Nat) (w : World) (hr : OpsR w oa ops) (hn : ops.length ≤ 1000) (hkd : ∀ o, o ∈ ops → o.kd.data.toList.length = 1) :
    Calls Tryz.prog 167 #[.slice oa ops.length oc] w fun r w' => r = .returned (.string ⟨(formU ops).toArray⟩) ∧ Below w.heap.size w w' := by
  have HR := Lib.hid hr
  have HKD := Lib.hid hkd
  clear hr hkd
  go_enter Tryz.func167, Tryz.ntmps167
  go_wp2_with fail
  go_loopw [8] (fun iv wr => ∃ k : Nat, k ≤ ops.length ∧ iv = .int .i64 k ∧ Hid (Lib.IsBuilderF 293 5 w.heap.size w.heap.size (Lib.byteCells (formU (ops.take k))) wr) ∧ Hid (Below w.heap.size w wr)) (fun iv _ => ops.length - (intOf iv).toNat)
  case atStart => exact ⟨0, Nat.zero_le _, rfl, Lib.IsBuilderF.of (Lib.fresh_isBuilder _ _ w), oalloc _ _⟩
  case round =>
    obtain ⟨k, hk, rfl, HI, HB⟩ := hrel
    by_cases hlt : k < ops.length
    · have hk' : (k : Int) < ops.length := by omega
      obtain ⟨b, rfl, cur, hbc, hcell⟩ := HR.out (by omega)
      obtain ⟨r0, r1, r2, r3⟩ := hcell k hlt
      have hbw : wr.heap[b]? = some (.cells cur 235 (0, 0)) := by rw [HB.out.block b (blk_lt hbc)]; exact hbc
      have k0 := blk_cell hbw r0
      have k1 := blk_cell hbw r1
      have k2 := blk_cell hbw r2
      have k3 := blk_cell hbw r3
      have hz := blk_lt hbw
      obtain ⟨o, ho⟩ : ∃ o, ops[k]'hlt = o := ⟨_, rfl⟩
      rw [ho] at k0 k1 k2 k3
      have hko := HKD.out o (by rw [← ho]; exact List.getElem_mem _)
      have hks : o.kd.size = 1 := by rw [← hko, Array.length_toList]; rfl
      have HT : Hid (formU (ops.take (k + 1)) = formU (ops.take k) ++ o.kd.data.toList) := by
        unfold Hid
        rw [List.take_succ_eq_append_getElem hlt, ho]
        simp [formU]
      have hfl : (formU (ops.take k)).length ≤ 1000 := by
        have e1 : ∀ l : List Opd, (∀ o, o ∈ l → o.kd.data.toList.length = 1) → (formU l).length = l.length := by
          intro l
          induction l with
          | nil => intro _; rfl
          | cons a r ih =>
            intro h
            have h1 := h a (by simp)
            have h2 := ih (fun o ho => h o (by simp [ho]))
            simp only [formU, List.flatMap_cons, List.length_append, List.length_cons] at h2 ⊢
            omega
        rw [e1 _ (fun o ho => HKD.out o (List.mem_of_mem_take ho))]
        simp; omega
      have HWS : Hid (∀ W, Below wr.heap.size wr W → Calls Tryz.prog 194 #[.pointer (some ⟨w.heap.size, 0, none⟩), .string o.kd] W fun e w' => (∃ x, e = .returned (.tuple #[.int .i64 x, .nilIface])) ∧ Lib.IsBuilderF 293 5 w.heap.size w.heap.size (Lib.byteCells (formU (ops.take k) ++ o.kd.data.toList)) w' ∧ Below w.heap.size W w') := fun W hb => by
        refine (Any.Builder_WriteString_k Tryz.lays166 Tryz.Builder_Extra_166 w.heap.size w.heap.size (Lib.byteCells (formU (ops.take k))) o.kd W (bldF_below HI.out hb) (by rw [Lib.byteCells_length]; omega) (Nat.le_trans HB.out.size hb.size)).mono ?_
        rintro e w' ⟨rfl, hA, hbel, hk⟩
        refine ⟨⟨_, rfl⟩, Or.inr ?_, hbel⟩
        rw [Lib.byteCells_append]
        exact hA
      clear ho hcell hbc hbw hko hks hfl r0 r1 r2 r3
      obtain ⟨kd, rg, nm, n⟩ := o
      simp only at k0 k1 k2 k3 HT HWS
      go_wp2_with fail
      refine (HWS.out _ (oalloc _ _)).mono ?_
      rintro e w1 ⟨⟨y, rfl⟩, hi1, hb1⟩
      have HI1 := Lib.hid hi1
      have HB1 : Hid (Below w.heap.size w w1) := (HB.out.alloc HB.out.size _).trans hb1
      clear hi1 hb1 HWS
      go_wp2_with fail
      exact ⟨⟨k + 1, by omega, by go_num, Lib.hid (by rw [HT.out]; exact HI1.out), HB1⟩, by simp [intOf]; omega⟩
    · obtain rfl : k = ops.length := by omega
      have hk' : ¬ ((ops.length : Nat) : Int) < ops.length := by omega
      have hI := HI.out
      rw [List.take_length] at hI
      have HST := Lib.hid (Tryz.Builder_String_any_k w.heap.size w.heap.size (formU ops) wr hI HB.out.size)
      clear hI
      go_wp2_with (first | (go_at_call 195; refine HST.out.mono ?_; rintro e w1 ⟨rfl, _, hb1, _⟩) | fail)
      go_ret
      exact ⟨rfl, HB.out.trans hb1⟩

end Go.Proofs.YtgjmbjahgcndnaaGreatDoor

namespace Go.Proofs.YtgjmbjahgcndnaaGreatDoor
open Go.RowKit

/-- The forms' table: kinds and shape. -/
def formKd (k : Nat) : ByteArray := [⟨#[]⟩, ⟨#[35, 114]⟩, ⟨#[114, 114]⟩, ⟨#[114]⟩, ⟨#[112]⟩, ⟨#[112]⟩, ⟨#[64]⟩, ⟨#[112, 114]⟩, ⟨#[112, 114]⟩, ⟨#[114, 64]⟩, ⟨#[64, 114]⟩, ⟨#[35]⟩].getD k ⟨#[]⟩
def formCells : Array Value := ((List.range 12).flatMap fun k => [.string (formKd k), .int .i64 (k : Int)]).toArray
def formV (k : Nat) : Value := .agg #[.string (formKd k), .int .i64 (k : Int)]
set_option maxRecDepth 100000 in
theorem formIndexAll (w : World) : ((List.range 12).map fun k : Nat => (Instr.index 300 (.agg formCells) (.int .i64 (k : Int))).run Tryz.prog w) = (List.range 12).map fun k : Nat => .ok (formV k) w := by kernel_rfl
theorem formIndex (k : Nat) (hk : k < 12) (w : World) : (Instr.index 300 (.agg formCells) (.int .i64 (k : Int))).run Tryz.prog w = .ok (.agg #[.string (formKd k), .int .i64 (k : Int)]) w := by
  have h := congrArg (fun l => l[k]?) (formIndexAll w)
  simpa [hk, formV] using h
theorem formSize : (Tryz.prog.info? 300).map (·.size) = some formCells.size := by kernel_rfl
/-- The table lies in memory as the text lays it. -/
structure FLaid (w : World) : Prop where
  sz : 6 < w.heap.size
  blk : ∃ t fr, w.heap[(6 : Nat)]? = some (.cells formCells t fr)
theorem FLaid.below {B : Nat} {w w' : World} (h : FLaid w) (hb : Below B w w') (hB : 6 < B) : FLaid w' :=
  ⟨Nat.lt_of_lt_of_le h.sz hb.size, by rw [hb.block 6 hB]; exact h.blk⟩

/-- The first form of those kinds, from the k-th on, that has an op of that name: that op; 0: none. -/
def findU (name form : ByteArray) : Nat → Nat → Int
  | 0, _ => 0
  | f + 1, k => if (formKd k).toList == form.toList then (if Isa.findFrom name k 28 0 = 0 then findU name form f (k + 1) else Isa.findFrom name k 28 0) else findU name form f (k + 1)

set_option maxHeartbeats 4000000 in
theorem find_any (name form : ByteArray) (w : World) (hL : Isa.Laid w) (hF : FLaid w) :
    Calls Tryz.prog 170 #[.string name, .string form] w fun r w' => r = .returned (.int .i64 (findU name form 12 0)) ∧ Below w.heap.size w w' := by
  have HFI := Lib.hid fun (k : Int) W (hb : Below w.heap.size w W) => Isa.find_any name k W (hL.below hb hL.sz)
  obtain ⟨t, fr, hblk⟩ := hF.blk
  clear hL hF
  go_enter Tryz.func170, Tryz.ntmps170
  go_wp2_with (first | (refine wpList_load_row rfl 300 _ rfl 6 rfl t formCells fr _ hblk Tryz.underlying300 rfl formSize ?_) | fail)
  clear hblk
  go_loopw [9] (fun iv wr => ∃ k : Nat, k ≤ 12 ∧ iv = .int .i64 k ∧ Hid (Below w.heap.size w wr) ∧ Hid (findU name form 12 0 = findU name form (12 - k) k)) (fun iv _ => 12 - (intOf iv).toNat)
  case atStart => exact ⟨0, Nat.zero_le _, rfl, Below.refl _ _, rfl⟩
  case round =>
    obtain ⟨k, hk, rfl, HB, HFU⟩ := hrel
    by_cases hlt : k < 12
    · have hi := formIndex k hlt
      have hk' : (k : Int) < 12 := by omega
      have HST : Hid (findU name form (12 - k) k = if (formKd k).toList == form.toList then (if Isa.findFrom name k 28 0 = 0 then findU name form (12 - (k + 1)) (k + 1) else Isa.findFrom name k 28 0) else findU name form (12 - (k + 1)) (k + 1)) := by
        unfold Hid
        rw [show 12 - k = (12 - (k + 1)) + 1 by omega]
        rfl
      have HCL := Lib.hid (HFI.out (k : Int) (wr.alloc (.cells #[.string (formKd k), .int .i64 (k : Int)] 299)) (HB.out.alloc HB.out.size _))
      generalize formKd k = fk at *
      generalize Isa.findFrom name k 28 0 = R at *
      by_cases h1 : fk.toList = form.toList
      · have h1' : (fk.toList == form.toList) = true := beq_iff_eq.2 h1
        by_cases h2 : R = 0
        · have hR : (R == 0) = true := beq_iff_eq.2 h2
          go_wp2_with (first | (go_at_call 203; refine HCL.out.mono ?_; rintro e w1 ⟨rfl, hb1⟩) | fail)
          exact ⟨⟨k + 1, by omega, by go_num, Lib.hid ((HB.out.alloc HB.out.size _).trans (hb1.mono (by have := HB.out.size; simp; omega))), Lib.hid (by rw [HFU.out, HST.out, if_pos h1', if_pos h2])⟩, by simp [intOf]; omega⟩
        · have hR : (R == 0) = false := beq_eq_false_iff_ne.2 h2
          go_wp2_with (first | (go_at_call 203; refine HCL.out.mono ?_; rintro e w1 ⟨rfl, hb1⟩) | fail)
          go_ret
          exact ⟨ret_int (by rw [HFU.out, HST.out, if_pos h1', if_neg h2]), (HB.out.alloc HB.out.size _).trans (hb1.mono (by have := HB.out.size; simp; omega))⟩
      · have h1' : (fk.toList == form.toList) = false := beq_eq_false_iff_ne.2 h1
        go_wp2_with fail
        exact ⟨⟨k + 1, by omega, by go_num, Lib.hid (HB.out.alloc HB.out.size _), Lib.hid (by rw [HFU.out, HST.out, h1']; rfl)⟩, by simp [intOf]; omega⟩
    · have hk' : ¬ (k : Int) < 12 := by omega
      have HX : Hid (findU name form 12 0 = 0) := by unfold Hid; rw [HFU.out, show 12 - k = 0 by omega]; rfl
      go_wp2
      go_ret
      exact ⟨ret_int HX.out.symm, HB.out⟩

/-- An instruction's numbers (as UdB's In, flat). -/
structure Fi where
  op : Int
  n : Int
  m : Int
  imm : Int
def kdN : List UInt8 := [35]
def kdP : List UInt8 := [112]
def fillU (i : Fi) (o : Opd) : Fi := if o.kd.toList == kdN then { i with imm := o.n } else if o.kd.toList == kdP then i else { i with m := i.n, n := o.r }

set_option maxHeartbeats 4000000 in
theorem filled_any (op : Int) (ops : List Opd) (oa : Option Addr) (oc : Nat) (w : World) (hL : Isa.Laid w) (hr : OpsR w oa ops) (hn : ops.length ≤ 1000) (hnm : ∀ o, o ∈ ops → o.kd.toList = kdN → o.nm = ⟨#[]⟩) :
    Calls Tryz.prog 171 #[.int .i64 op, .slice oa ops.length oc] w fun r w' => r = .returned (.tuple #[.agg #[.int .i64 (ops.foldl fillU ⟨op, 0, 0, 0⟩).op, .int .i64 (ops.foldl fillU ⟨op, 0, 0, 0⟩).n, .int .i64 (ops.foldl fillU ⟨op, 0, 0, 0⟩).m, .int .i64 (ops.foldl fillU ⟨op, 0, 0, 0⟩).imm], .int .i64 (Isa.wrongI (ops.foldl fillU ⟨op, 0, 0, 0⟩).op (ops.foldl fillU ⟨op, 0, 0, 0⟩).n (ops.foldl fillU ⟨op, 0, 0, 0⟩).m (ops.foldl fillU ⟨op, 0, 0, 0⟩).imm)]) ∧ Below w.heap.size w w' := by
  have HWR := Lib.hid fun (i : Fi) W (hb : Below w.heap.size w W) => Isa.wrong_any i.op i.n i.m i.imm W (hL.below hb hL.sz)
  have HR := Lib.hid hr
  have HNM := Lib.hid hnm
  clear hL hr hnm
  obtain ⟨F, HFF⟩ : ∃ F, Hid (ops.foldl fillU ⟨op, 0, 0, 0⟩ = F) := ⟨_, rfl⟩
  rw [HFF.out]
  obtain ⟨fo, fn, fm, fi⟩ := F
  simp only
  go_enter Tryz.func171, Tryz.ntmps171
  go_wp2_with fail
  go_loopw [13] (fun iv wr => ∃ k : Nat, k ≤ ops.length ∧ iv = .int .i64 k ∧ Hid (wr.heap[w.heap.size]? = some (.cells #[.int .i64 0, .int .i64 0, .int .i64 0, .int .i64 0] 71 (0, 0))) ∧ Hid (wr.heap[w.heap.size + 1]? = some (.cells #[.int .i64 ((ops.take k).foldl fillU ⟨op, 0, 0, 0⟩).op, .int .i64 ((ops.take k).foldl fillU ⟨op, 0, 0, 0⟩).n, .int .i64 ((ops.take k).foldl fillU ⟨op, 0, 0, 0⟩).m, .int .i64 ((ops.take k).foldl fillU ⟨op, 0, 0, 0⟩).imm] 71 (0, 0))) ∧ Hid (Below w.heap.size w wr)) (fun iv _ => ops.length - (intOf iv).toNat)
  case atStart => exact ⟨0, Nat.zero_le _, rfl, Lib.hid (by rw [old2 _ _ (by simp)]; exact new_at _ _ rfl), new_at _ _ (by simp), by unfold Hid; go_grown⟩
  case round =>
    obtain ⟨k, hk, rfl, X0, X1, HB⟩ := hrel
    by_cases hlt : k < ops.length
    · have hk' : (k : Int) < ops.length := by omega
      obtain ⟨b, rfl, cur, hbc, hcell⟩ := HR.out (by omega)
      obtain ⟨r0, r1, r2, r3⟩ := hcell k hlt
      have hbw : wr.heap[b]? = some (.cells cur 235 (0, 0)) := by rw [HB.out.block b (blk_lt hbc)]; exact hbc
      have k0 := blk_cell hbw r0
      have k1 := blk_cell hbw r1
      have k2 := blk_cell hbw r2
      have k3 := blk_cell hbw r3
      have hz := blk_lt hbw
      obtain ⟨o, ho⟩ : ∃ o, ops[k]'hlt = o := ⟨_, rfl⟩
      rw [ho] at k0 k1 k2 k3
      have hon := HNM.out o (by rw [← ho]; exact List.getElem_mem _)
      have HT : Hid ((ops.take (k + 1)).foldl fillU ⟨op, 0, 0, 0⟩ = fillU ((ops.take k).foldl fillU ⟨op, 0, 0, 0⟩) o) := by
        unfold Hid
        rw [List.take_succ_eq_append_getElem hlt, ho, List.foldl_append]
        rfl
      obtain ⟨gi, hfi⟩ : ∃ gi, (ops.take k).foldl fillU ⟨op, 0, 0, 0⟩ = gi := ⟨_, rfl⟩
      rw [hfi] at HT X1
      clear HFF
      obtain ⟨⟨⟨u0, u1⟩, u2, u3⟩, ⟨f0, f1⟩, f2, f3⟩ := var4_of X1.out
      have hz1 := blk_lt X1.out
      clear ho hcell hbc hbw hfi r0 r1 r2 r3
      obtain ⟨kd, rg, nm, n⟩ := o
      obtain ⟨fo', fn', fm', fi'⟩ := gi
      simp only at k0 k1 k2 k3 hon u0 u1 u2 u3
      by_cases h1 : kd.toList = kdN
      · have hn0 := hon h1
        subst hn0
        have HX : Hid (fillU ⟨fo', fn', fm', fi'⟩ ⟨kd, rg, ⟨#[]⟩, n⟩ = ⟨fo', fn', fm', n⟩) := by unfold Hid fillU; rw [if_pos (beq_iff_eq.2 h1)]
        unfold kdN at h1
        have h1' : (kd.toList == [35]) = true := beq_iff_eq.2 h1
        go_wp2_with fail
        refine ⟨⟨k + 1, by omega, by go_num, Lib.hid ?_, Lib.hid ?_, Lib.hid ((HB.out.setCell (Nat.le_succ _) _).alloc (by simpa using HB.out.size) _)⟩, by simp [intOf]; omega⟩
        · rw [old2 _ _ (by simp; omega), Below.heap_setCell _ _ _ _ (by show w.heap.size ≠ w.heap.size + 1; omega)]; exact X0.out
        · rw [HT.out, HX.out, old2 _ _ (by simpa using hz1)]; exact blk_set X1.out
      · by_cases h2 : kd.toList = kdP
        · have HX : Hid (fillU ⟨fo', fn', fm', fi'⟩ ⟨kd, rg, nm, n⟩ = ⟨fo', fn', fm', fi'⟩) := by unfold Hid fillU; rw [if_neg (by simpa using h1), if_pos (beq_iff_eq.2 h2)]
          unfold kdN at h1
          unfold kdP at h2
          have h1' : (kd.toList == [35]) = false := beq_eq_false_iff_ne.2 h1
          have h2' : (kd.toList == [112]) = true := beq_iff_eq.2 h2
          go_wp2_with fail
          refine ⟨⟨k + 1, by omega, by go_num, Lib.hid ?_, Lib.hid ?_, Lib.hid (HB.out.alloc HB.out.size _)⟩, by simp [intOf]; omega⟩
          · rw [old2 _ _ (by omega)]; exact X0.out
          · rw [HT.out, HX.out, old2 _ _ hz1]; exact X1.out
        · have HX : Hid (fillU ⟨fo', fn', fm', fi'⟩ ⟨kd, rg, nm, n⟩ = ⟨fo', rg, fn', fi'⟩) := by unfold Hid fillU; rw [if_neg (by simpa using h1), if_neg (by simpa using h2)]
          unfold kdN at h1
          unfold kdP at h2
          have h1' : (kd.toList == [35]) = false := beq_eq_false_iff_ne.2 h1
          have h2' : (kd.toList == [112]) = false := beq_eq_false_iff_ne.2 h2
          go_wp2_with fail
          go_region
          all_goals
            go_wp2_with fail
            refine ⟨⟨k + 1, by omega, by go_num, Lib.hid ?_, Lib.hid ?_, Lib.hid ((((HB.out.setCell (Nat.le_succ _) _).setCell (Nat.le_succ _) _).alloc (by simpa using HB.out.size) _).drew)⟩, by simp [intOf]; omega⟩
            · show (World.alloc _ _).heap[w.heap.size]? = _
              rw [old2 _ _ (by simp; omega), Below.heap_setCell _ _ _ _ (by show w.heap.size ≠ w.heap.size + 1; omega), Below.heap_setCell _ _ _ _ (by show w.heap.size ≠ w.heap.size + 1; omega)]; exact X0.out
            · rw [HT.out, HX.out]
              show (World.alloc _ _).heap[w.heap.size + 1]? = _
              rw [old2 _ _ (by simpa using hz1)]
              exact blk_set (blk_set X1.out)
    · obtain rfl : k = ops.length := by omega
      have hk' : ¬ ((ops.length : Nat) : Int) < ops.length := by omega
      rw [List.take_length, HFF.out] at X1
      simp only at X1
      obtain ⟨⟨⟨u0, u1⟩, u2, u3⟩, ⟨f0, f1⟩, f2, f3⟩ := var4_of X1.out
      obtain ⟨⟨⟨v0, v1⟩, v2, v3⟩, ⟨g0, g1⟩, g2, g3⟩ := var4_of X0.out
      have hz1 := blk_lt X1.out
      have hz0 := blk_lt X0.out
      go_wp2_with fail
      go_region_with (go_at_call 204; refine (HWR.out ⟨fo, fn, fm, fi⟩ _ (by repeat' first | exact HB.out | apply Below.drew)).mono ?_; rintro e w1 ⟨rfl, hb1⟩; obtain ⟨⟨⟨y0, y1⟩, y2, y3⟩, ⟨l0, l1⟩, l2, l3⟩ := var4_of ((hb1.block _ hz1).trans X1.out); obtain ⟨⟨⟨p0, p1⟩, p2, p3⟩, ⟨m0, m1⟩, m2, m3⟩ := var4_of ((hb1.block _ hz0).trans X0.out); have zz1 := Nat.lt_of_lt_of_le hz1 hb1.size; have zz0 := Nat.lt_of_lt_of_le hz0 hb1.size)
      all_goals
        have HB1 : Hid (Below w.heap.size w w1) := HB.out.trans (Below.mono (Below.trans (by repeat' first | exact Below.refl _ _ | apply Below.drew) hb1) HB.out.size)
        clear hb1
        go_wp2_with fail
        exact bodyPost_ret (v := .tuple #[.agg #[.int .i64 fo, .int .i64 fn, .int .i64 fm, .int .i64 fi], .int .i64 (Isa.wrongI fo fn fm fi)]) (by simp [results, Tryz.results171, go_sem, Act.put, p0, p1, p2, p3]) rfl ⟨rfl, (((HB1.out.setCell (Nat.le_refl _) _).setCell (Nat.le_refl _) _).setCell (Nat.le_refl _) _).setCell (Nat.le_refl _) _⟩

end Go.Proofs.YtgjmbjahgcndnaaGreatDoor

namespace Go.Proofs.YtgjmbjahgcndnaaGreatDoor
open Go.RowKit

end Go.Proofs.YtgjmbjahgcndnaaGreatDoor

namespace Go.Proofs.YtgjmbjahgcndnaaGreatDoor
open Go.RowKit

theorem UR.cell0 {W : World} {B gu : Nat} {e : Value} {ln : Int} {nv lm pp pv rv : Value} {its : List It} (h : UR W B gu e ln nv lm pp pv rv its) : W.cell? ⟨gu, 0, none⟩ = some e := by
  obtain ⟨iv, l, h1, _⟩ := h.its
  exact blk_cell h1 rfl

def tkNum (n : Int) : Tk := ⟨2, n, ⟨#[]⟩⟩

end Go.Proofs.YtgjmbjahgcndnaaGreatDoor
