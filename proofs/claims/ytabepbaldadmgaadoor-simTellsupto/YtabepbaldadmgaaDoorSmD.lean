/- The document's own Plain: instructions that change registers and T. -/
import Derived.Test.YtabepbaldadmgaaDoorPut10
namespace Go.Proofs.YtabepbaldadmgaaDoor
open Go.RowKit Isa

def a32 (m : Ma) (n : Int) : Int := wrap32 (m.r n.toNat)
theorem w32_bd (x : Int) : -2147483648 ≤ wrap32 x ∧ wrap32 x ≤ 2147483647 := by unfold wrap32; omega

/-- What Plain's boxes hold. -/
structure PB (w : World) (M : Ma) (ba : Option Addr) (bc : Nat) (sv : Value) (ta : Option Addr) (tc : Nat) (op n mm imm : Int) (W : World) : Prop where
  bel : Below w.heap.size w W
  b1 : W.heap[w.heap.size]? = some (.cells (mC M ba bc sv ta tc) 29 (0, 0))
  b2 : W.heap[w.heap.size + 1]? = some (.cells #[.int .i64 op, .int .i64 n, .int .i64 mm, .int .i64 imm] 45 (0, 0))
  b3 : W.heap[w.heap.size + 1 + 1]? = some (.cells (mC zeroM none 0 (.slice none 0 0) none 0) 29 (0, 0))
theorem PB.set {w : World} {M : Ma} {ba : Option Addr} {bc : Nat} {sv : Value} {ta : Option Addr} {tc : Nat} {op n mm imm : Int} {W : World} (h : PB w M ba bc sv ta tc op n mm imm W) (k : Nat) (hk : k < 16) (v : Int) : PB w (setR M k v) ba bc sv ta tc op n mm imm (W.setCell ⟨w.heap.size, k, none⟩ (.int .i64 v)) :=
  ⟨h.bel.setCell (Nat.le_refl _) _, by rw [_root_.Go.heap_setCell_same W w.heap.size k _ 29 _ h.b1, mC_set M ba bc sv ta tc k hk v], by rw [Below.heap_setCell _ _ _ _ (by show w.heap.size + 1 ≠ w.heap.size; omega)]; exact h.b2, by rw [Below.heap_setCell _ _ _ _ (by show w.heap.size + 1 + 1 ≠ w.heap.size; omega)]; exact h.b3⟩
theorem PB.tt {w : World} {M : Ma} {ba : Option Addr} {bc : Nat} {sv : Value} {ta : Option Addr} {tc : Nat} {op n mm imm : Int} {W : World} (h : PB w M ba bc sv ta tc op n mm imm W) (v : Bool) : PB w { M with t := v } ba bc sv ta tc op n mm imm (W.setCell ⟨w.heap.size, 16, none⟩ (.bool v)) :=
  ⟨h.bel.setCell (Nat.le_refl _) _, by rw [_root_.Go.heap_setCell_same W w.heap.size 16 _ 29 _ h.b1, mC_t M ba bc sv ta tc v], by rw [Below.heap_setCell _ _ _ _ (by show w.heap.size + 1 ≠ w.heap.size; omega)]; exact h.b2, by rw [Below.heap_setCell _ _ _ _ (by show w.heap.size + 1 + 1 ≠ w.heap.size; omega)]; exact h.b3⟩
theorem PB.tcell {w : World} {M : Ma} {ba : Option Addr} {bc : Nat} {sv : Value} {ta : Option Addr} {tc : Nat} {op n mm imm : Int} {W : World} (h : PB w M ba bc sv ta tc op n mm imm W) : W.cell? ⟨w.heap.size, 16, none⟩ = some (.bool M.t) ∧ W.frozen? ⟨w.heap.size, 16, none⟩ = false := ⟨cell_of_block (i := 16) h.b1 rfl, blk_froz h.b1⟩
theorem i32_bd (x : Int) : -2147483648 ≤ IntKind.i32.wrap x ∧ IntKind.i32.wrap x ≤ 2147483647 := by
  simp [IntKind.wrap, IntKind.bits, IntKind.signed]; omega
theorem bits32 (o : BinOp) (x y : Int) (h : o = .and ∨ o = .or ∨ o = .xor) : -2147483648 ≤ bits o .i32 x y ∧ bits o .i32 x y ≤ 2147483647 := by
  rcases h with rfl | rfl | rfl
  · exact i32_bd _
  · exact i32_bd _
  · exact i32_bd _

set_option maxRecDepth 100000 in
set_option maxHeartbeats 4000000 in
theorem plain1 (m : Ma) (ba : Option Addr) (bc : Nat) (s0 : Option Addr) (s1 s2 : Nat) (ta : Option Addr) (tc : Nat) (n mm imm at' : Int) (w : World) (hn0 : 0 ≤ n) (hn1 : n ≤ 15) (hm0 : 0 ≤ mm) (hm1 : mm ≤ 15) (_hi0 : -10000 ≤ imm) (_hi1 : imm ≤ 10000) :
    Calls Tryd.prog 25 #[.agg (mC m ba bc (.slice s0 s1 s2) ta tc), .agg #[.int .i64 1, .int .i64 n, .int .i64 mm, .int .i64 imm], .int .i64 at'] w fun e w' => e = .returned (.tuple #[.agg (mC (m) ba bc (.slice s0 s1 s2) ta tc), .int .i64 0]) ∧ Below w.heap.size w w' := by
  obtain ⟨V, hV⟩ : ∃ V, V = ((w.alloc (.cells (mC m ba bc (.slice s0 s1 s2) ta tc) 29)).alloc (.cells #[.int .i64 1, .int .i64 n, .int .i64 mm, .int .i64 imm] 45)).alloc (.cells (mC zeroM none 0 (.slice none 0 0) none 0) 29) := ⟨_, rfl⟩
  obtain ⟨hB, k1, k2, k3⟩ := pl_start w m ba bc (.slice s0 s1 s2) ta tc 1 n mm imm V hV
  have HV : Hid (((w.alloc (.cells (mC m ba bc (.slice s0 s1 s2) ta tc) 29)).alloc (.cells #[.int .i64 1, .int .i64 n, .int .i64 mm, .int .i64 imm] 45)).alloc (.cells #[.int .i64 0, .int .i64 0, .int .i64 0, .int .i64 0, .int .i64 0, .int .i64 0, .int .i64 0, .int .i64 0, .int .i64 0, .int .i64 0, .int .i64 0, .int .i64 0, .int .i64 0, .int .i64 0, .int .i64 0, .int .i64 0, .bool false, .int .i64 0, .int .i64 0, .int .i64 0, .slice none 0 0, .slice none 0 0, .slice none 0 0, .int .i64 0] 29) = V) := hV.symm
  clear hV
  have HB := Lib.hid hB
  have c0 := cell_of_block (i := 0) k2 rfl
  have c1 := cell_of_block (i := 1) k2 rfl
  have c2 := cell_of_block (i := 2) k2 rfl
  have c3 := cell_of_block (i := 3) k2 rfl
  have cn := cell_of_block (i := n.toNat) k1 (mC_reg m ba bc (.slice s0 s1 s2) ta tc n.toNat (by omega))
  have cm := cell_of_block (i := mm.toNat) k1 (mC_reg m ba bc (.slice s0 s1 s2) ta tc mm.toNat (by omega))
  have hn2 : n < 16 := by omega
  have hm2 : mm < 16 := by omega
  have hA : wrap32 (m.r n.toNat) = a32 m n := rfl
  have hB2 : wrap32 (m.r mm.toNat) = a32 m mm := rfl
  obtain ⟨p0, p1⟩ := w32_bd (m.r n.toNat)
  obtain ⟨p2, p3⟩ := w32_bd (m.r mm.toNat)
  rw [hA] at p0 p1
  rw [hB2] at p2 p3
  have HK1 := Lib.hid k1
  have HK2 := Lib.hid k2
  have HK3 := Lib.hid k3
  clear hB k1 k2 k3
  have HQ : Hid (∀ nq, ∃ w1, w1 = V.drewN nq ∧ Below w.heap.size w w1 ∧ w1.heap = V.heap) := fun nq => ⟨_, rfl, HB.out.trans (Go.Joins.below_draws _ V nq), by simp⟩
  go_enter Tryd.func25, Tryd.ntmps25
  go_wp2_with fail
  rw [HV.out]
  go_quiet (fail)
  obtain ⟨w1, hw1, hb1, hh1⟩ := HQ.out nq
  rw [← hw1]
  have k1 := HK1.out
  have k2 := HK2.out
  have k3 := HK3.out
  rw [← hh1] at k1 k2 k3
  have HB1 := Lib.hid hb1
  have G1 := Lib.hid k1
  have G2 := Lib.hid k2
  have G3 := Lib.hid k3
  clear hw1 hb1 hh1 HQ HV HB HK1 HK2 HK3 c0 c1 c2 c3 cn cm
  have c0 := cell_of_block (i := 0) k2 rfl
  have c1 := cell_of_block (i := 1) k2 rfl
  have c2 := cell_of_block (i := 2) k2 rfl
  have c3 := cell_of_block (i := 3) k2 rfl
  clear k1 k2 k3
  have HP : Hid (PB w m ba bc (.slice s0 s1 s2) ta tc 1 n mm imm w1) := ⟨HB1.out, G1.out, G2.out, G3.out⟩
  clear HB1 G1 G2 G3
  have HPF := HP
  go_wp2_with (first | (refine wpList_load_row rfl 29 _ rfl w.heap.size rfl 29 (mC (m) ba bc (.slice s0 s1 s2) ta tc) (0, 0) _ HPF.out.b1 Tryd.underlying29 rfl (mSize _ _ _ _ _ _) ?_) | (refine wpList_store_row rfl 29 _ _ rfl (w.heap.size + 1 + 1) (mC (m) ba bc (.slice s0 s1 s2) ta tc) rfl rfl 29 (mC zeroM none 0 (.slice none 0 0) none 0) HPF.out.b3 (mSize _ _ _ _ _ _) rfl (mAll _ _ _ _ _ _ _ _) ?_) | fail)
  exact bodyPost_ret (v := .tuple #[.agg (mC (m) ba bc (.slice s0 s1 s2) ta tc), .int .i64 0]) (res_m rfl rfl (setRow_heap _ _ _ _ _ _ HPF.out.b3)) rfl ⟨rfl, below_setRow HPF.out.bel (by omega) _⟩

set_option maxRecDepth 100000 in
set_option maxHeartbeats 4000000 in
theorem plain3 (m : Ma) (ba : Option Addr) (bc : Nat) (s0 : Option Addr) (s1 s2 : Nat) (ta : Option Addr) (tc : Nat) (n mm imm at' : Int) (w : World) (hn0 : 0 ≤ n) (hn1 : n ≤ 15) (hm0 : 0 ≤ mm) (hm1 : mm ≤ 15) (_hi0 : -10000 ≤ imm) (_hi1 : imm ≤ 10000) :
    Calls Tryd.prog 25 #[.agg (mC m ba bc (.slice s0 s1 s2) ta tc), .agg #[.int .i64 3, .int .i64 n, .int .i64 mm, .int .i64 imm], .int .i64 at'] w fun e w' => e = .returned (.tuple #[.agg (mC (setR m n.toNat imm) ba bc (.slice s0 s1 s2) ta tc), .int .i64 0]) ∧ Below w.heap.size w w' := by
  obtain ⟨V, hV⟩ : ∃ V, V = ((w.alloc (.cells (mC m ba bc (.slice s0 s1 s2) ta tc) 29)).alloc (.cells #[.int .i64 3, .int .i64 n, .int .i64 mm, .int .i64 imm] 45)).alloc (.cells (mC zeroM none 0 (.slice none 0 0) none 0) 29) := ⟨_, rfl⟩
  obtain ⟨hB, k1, k2, k3⟩ := pl_start w m ba bc (.slice s0 s1 s2) ta tc 3 n mm imm V hV
  have HV : Hid (((w.alloc (.cells (mC m ba bc (.slice s0 s1 s2) ta tc) 29)).alloc (.cells #[.int .i64 3, .int .i64 n, .int .i64 mm, .int .i64 imm] 45)).alloc (.cells #[.int .i64 0, .int .i64 0, .int .i64 0, .int .i64 0, .int .i64 0, .int .i64 0, .int .i64 0, .int .i64 0, .int .i64 0, .int .i64 0, .int .i64 0, .int .i64 0, .int .i64 0, .int .i64 0, .int .i64 0, .int .i64 0, .bool false, .int .i64 0, .int .i64 0, .int .i64 0, .slice none 0 0, .slice none 0 0, .slice none 0 0, .int .i64 0] 29) = V) := hV.symm
  clear hV
  have HB := Lib.hid hB
  have c0 := cell_of_block (i := 0) k2 rfl
  have c1 := cell_of_block (i := 1) k2 rfl
  have c2 := cell_of_block (i := 2) k2 rfl
  have c3 := cell_of_block (i := 3) k2 rfl
  have cn := cell_of_block (i := n.toNat) k1 (mC_reg m ba bc (.slice s0 s1 s2) ta tc n.toNat (by omega))
  have cm := cell_of_block (i := mm.toNat) k1 (mC_reg m ba bc (.slice s0 s1 s2) ta tc mm.toNat (by omega))
  have hn2 : n < 16 := by omega
  have hm2 : mm < 16 := by omega
  have hA : wrap32 (m.r n.toNat) = a32 m n := rfl
  have hB2 : wrap32 (m.r mm.toNat) = a32 m mm := rfl
  obtain ⟨p0, p1⟩ := w32_bd (m.r n.toNat)
  obtain ⟨p2, p3⟩ := w32_bd (m.r mm.toNat)
  rw [hA] at p0 p1
  rw [hB2] at p2 p3
  have HK1 := Lib.hid k1
  have HK2 := Lib.hid k2
  have HK3 := Lib.hid k3
  clear hB k1 k2 k3
  have HQ : Hid (∀ nq, ∃ w1, w1 = V.drewN nq ∧ Below w.heap.size w w1 ∧ w1.heap = V.heap) := fun nq => ⟨_, rfl, HB.out.trans (Go.Joins.below_draws _ V nq), by simp⟩
  go_enter Tryd.func25, Tryd.ntmps25
  go_wp2_with fail
  rw [HV.out]
  go_quiet (fail)
  obtain ⟨w1, hw1, hb1, hh1⟩ := HQ.out nq
  rw [← hw1]
  have k1 := HK1.out
  have k2 := HK2.out
  have k3 := HK3.out
  rw [← hh1] at k1 k2 k3
  have HB1 := Lib.hid hb1
  have G1 := Lib.hid k1
  have G2 := Lib.hid k2
  have G3 := Lib.hid k3
  clear hw1 hb1 hh1 HQ HV HB HK1 HK2 HK3 c0 c1 c2 c3 cn cm
  have c0 := cell_of_block (i := 0) k2 rfl
  have c1 := cell_of_block (i := 1) k2 rfl
  have c2 := cell_of_block (i := 2) k2 rfl
  have c3 := cell_of_block (i := 3) k2 rfl
  clear k1 k2 k3
  have HP : Hid (PB w m ba bc (.slice s0 s1 s2) ta tc 3 n mm imm w1) := ⟨HB1.out, G1.out, G2.out, G3.out⟩
  clear HB1 G1 G2 G3
  have hnn : n.toNat < 16 := by omega
  have hq0 : -2147483648 ≤ imm := by omega
  have hq1 : imm ≤ 2147483647 := by omega
  go_wp2_with (first | (go_at_call 38; refine (set_any _ ba bc (.slice s0 s1 s2) ta tc w.heap.size (w.heap.size + 1) 3 n mm imm (imm) _ HP.out.b1 HP.out.b2 hn0 hn1 hq0 hq1).mono ?_; rintro e W2 ⟨rfl, rfl⟩; have HPF := Lib.hid (HP.out.set n.toNat hnn (imm))) | (refine wpList_load_row rfl 29 _ rfl w.heap.size rfl 29 (mC (setR m n.toNat imm) ba bc (.slice s0 s1 s2) ta tc) (0, 0) _ HPF.out.b1 Tryd.underlying29 rfl (mSize _ _ _ _ _ _) ?_) | (refine wpList_store_row rfl 29 _ _ rfl (w.heap.size + 1 + 1) (mC (setR m n.toNat imm) ba bc (.slice s0 s1 s2) ta tc) rfl rfl 29 (mC zeroM none 0 (.slice none 0 0) none 0) HPF.out.b3 (mSize _ _ _ _ _ _) rfl (mAll _ _ _ _ _ _ _ _) ?_) | fail)
  exact bodyPost_ret (v := .tuple #[.agg (mC (setR m n.toNat imm) ba bc (.slice s0 s1 s2) ta tc), .int .i64 0]) (res_m rfl rfl (setRow_heap _ _ _ _ _ _ HPF.out.b3)) rfl ⟨rfl, below_setRow HPF.out.bel (by omega) _⟩

set_option maxRecDepth 100000 in
set_option maxHeartbeats 4000000 in
theorem plain4 (m : Ma) (ba : Option Addr) (bc : Nat) (s0 : Option Addr) (s1 s2 : Nat) (ta : Option Addr) (tc : Nat) (n mm imm at' : Int) (w : World) (hn0 : 0 ≤ n) (hn1 : n ≤ 15) (hm0 : 0 ≤ mm) (hm1 : mm ≤ 15) (_hi0 : -10000 ≤ imm) (_hi1 : imm ≤ 10000) :
    Calls Tryd.prog 25 #[.agg (mC m ba bc (.slice s0 s1 s2) ta tc), .agg #[.int .i64 4, .int .i64 n, .int .i64 mm, .int .i64 imm], .int .i64 at'] w fun e w' => e = .returned (.tuple #[.agg (mC (setR m n.toNat (wrap32 (a32 m n + imm))) ba bc (.slice s0 s1 s2) ta tc), .int .i64 0]) ∧ Below w.heap.size w w' := by
  obtain ⟨V, hV⟩ : ∃ V, V = ((w.alloc (.cells (mC m ba bc (.slice s0 s1 s2) ta tc) 29)).alloc (.cells #[.int .i64 4, .int .i64 n, .int .i64 mm, .int .i64 imm] 45)).alloc (.cells (mC zeroM none 0 (.slice none 0 0) none 0) 29) := ⟨_, rfl⟩
  obtain ⟨hB, k1, k2, k3⟩ := pl_start w m ba bc (.slice s0 s1 s2) ta tc 4 n mm imm V hV
  have HV : Hid (((w.alloc (.cells (mC m ba bc (.slice s0 s1 s2) ta tc) 29)).alloc (.cells #[.int .i64 4, .int .i64 n, .int .i64 mm, .int .i64 imm] 45)).alloc (.cells #[.int .i64 0, .int .i64 0, .int .i64 0, .int .i64 0, .int .i64 0, .int .i64 0, .int .i64 0, .int .i64 0, .int .i64 0, .int .i64 0, .int .i64 0, .int .i64 0, .int .i64 0, .int .i64 0, .int .i64 0, .int .i64 0, .bool false, .int .i64 0, .int .i64 0, .int .i64 0, .slice none 0 0, .slice none 0 0, .slice none 0 0, .int .i64 0] 29) = V) := hV.symm
  clear hV
  have HB := Lib.hid hB
  have c0 := cell_of_block (i := 0) k2 rfl
  have c1 := cell_of_block (i := 1) k2 rfl
  have c2 := cell_of_block (i := 2) k2 rfl
  have c3 := cell_of_block (i := 3) k2 rfl
  have cn := cell_of_block (i := n.toNat) k1 (mC_reg m ba bc (.slice s0 s1 s2) ta tc n.toNat (by omega))
  have cm := cell_of_block (i := mm.toNat) k1 (mC_reg m ba bc (.slice s0 s1 s2) ta tc mm.toNat (by omega))
  have hn2 : n < 16 := by omega
  have hm2 : mm < 16 := by omega
  have hA : wrap32 (m.r n.toNat) = a32 m n := rfl
  have hB2 : wrap32 (m.r mm.toNat) = a32 m mm := rfl
  obtain ⟨p0, p1⟩ := w32_bd (m.r n.toNat)
  obtain ⟨p2, p3⟩ := w32_bd (m.r mm.toNat)
  rw [hA] at p0 p1
  rw [hB2] at p2 p3
  have HK1 := Lib.hid k1
  have HK2 := Lib.hid k2
  have HK3 := Lib.hid k3
  clear hB k1 k2 k3
  have HQ : Hid (∀ nq, ∃ w1, w1 = V.drewN nq ∧ Below w.heap.size w w1 ∧ w1.heap = V.heap) := fun nq => ⟨_, rfl, HB.out.trans (Go.Joins.below_draws _ V nq), by simp⟩
  go_enter Tryd.func25, Tryd.ntmps25
  go_wp2_with fail
  rw [HV.out]
  go_quiet (fail)
  obtain ⟨w1, hw1, hb1, hh1⟩ := HQ.out nq
  rw [← hw1]
  have k1 := HK1.out
  have k2 := HK2.out
  have k3 := HK3.out
  rw [← hh1] at k1 k2 k3
  have HB1 := Lib.hid hb1
  have G1 := Lib.hid k1
  have G2 := Lib.hid k2
  have G3 := Lib.hid k3
  clear hw1 hb1 hh1 HQ HV HB HK1 HK2 HK3 c0 c1 c2 c3 cn cm
  have c0 := cell_of_block (i := 0) k2 rfl
  have c1 := cell_of_block (i := 1) k2 rfl
  have c2 := cell_of_block (i := 2) k2 rfl
  have c3 := cell_of_block (i := 3) k2 rfl
  clear k1 k2 k3
  have HP : Hid (PB w m ba bc (.slice s0 s1 s2) ta tc 4 n mm imm w1) := ⟨HB1.out, G1.out, G2.out, G3.out⟩
  clear HB1 G1 G2 G3
  have hnn : n.toNat < 16 := by omega
  have hq0 : -2147483648 ≤ (wrap32 (a32 m n + imm)) := by have := w32_bd (a32 m n + imm); omega
  have hq1 : (wrap32 (a32 m n + imm)) ≤ 2147483647 := by have := w32_bd (a32 m n + imm); omega
  go_wp2_with (first | (go_at_call 38; refine (set_any _ ba bc (.slice s0 s1 s2) ta tc w.heap.size (w.heap.size + 1) 4 n mm imm ((wrap32 (a32 m n + imm))) _ HP.out.b1 HP.out.b2 hn0 hn1 hq0 hq1).mono ?_; rintro e W2 ⟨rfl, rfl⟩; have HPF := Lib.hid (HP.out.set n.toNat hnn ((wrap32 (a32 m n + imm))))) | (refine wpList_load_row rfl 29 _ rfl w.heap.size rfl 29 (mC (setR m n.toNat (wrap32 (a32 m n + imm))) ba bc (.slice s0 s1 s2) ta tc) (0, 0) _ HPF.out.b1 Tryd.underlying29 rfl (mSize _ _ _ _ _ _) ?_) | (refine wpList_store_row rfl 29 _ _ rfl (w.heap.size + 1 + 1) (mC (setR m n.toNat (wrap32 (a32 m n + imm))) ba bc (.slice s0 s1 s2) ta tc) rfl rfl 29 (mC zeroM none 0 (.slice none 0 0) none 0) HPF.out.b3 (mSize _ _ _ _ _ _) rfl (mAll _ _ _ _ _ _ _ _) ?_) | fail)
  exact bodyPost_ret (v := .tuple #[.agg (mC (setR m n.toNat (wrap32 (a32 m n + imm))) ba bc (.slice s0 s1 s2) ta tc), .int .i64 0]) (res_m rfl rfl (setRow_heap _ _ _ _ _ _ HPF.out.b3)) rfl ⟨rfl, below_setRow HPF.out.bel (by omega) _⟩

set_option maxRecDepth 100000 in
set_option maxHeartbeats 4000000 in
theorem plain5 (m : Ma) (ba : Option Addr) (bc : Nat) (s0 : Option Addr) (s1 s2 : Nat) (ta : Option Addr) (tc : Nat) (n mm imm at' : Int) (w : World) (hn0 : 0 ≤ n) (hn1 : n ≤ 15) (hm0 : 0 ≤ mm) (hm1 : mm ≤ 15) (_hi0 : -10000 ≤ imm) (_hi1 : imm ≤ 10000) :
    Calls Tryd.prog 25 #[.agg (mC m ba bc (.slice s0 s1 s2) ta tc), .agg #[.int .i64 5, .int .i64 n, .int .i64 mm, .int .i64 imm], .int .i64 at'] w fun e w' => e = .returned (.tuple #[.agg (mC (setR m n.toNat (a32 m mm)) ba bc (.slice s0 s1 s2) ta tc), .int .i64 0]) ∧ Below w.heap.size w w' := by
  obtain ⟨V, hV⟩ : ∃ V, V = ((w.alloc (.cells (mC m ba bc (.slice s0 s1 s2) ta tc) 29)).alloc (.cells #[.int .i64 5, .int .i64 n, .int .i64 mm, .int .i64 imm] 45)).alloc (.cells (mC zeroM none 0 (.slice none 0 0) none 0) 29) := ⟨_, rfl⟩
  obtain ⟨hB, k1, k2, k3⟩ := pl_start w m ba bc (.slice s0 s1 s2) ta tc 5 n mm imm V hV
  have HV : Hid (((w.alloc (.cells (mC m ba bc (.slice s0 s1 s2) ta tc) 29)).alloc (.cells #[.int .i64 5, .int .i64 n, .int .i64 mm, .int .i64 imm] 45)).alloc (.cells #[.int .i64 0, .int .i64 0, .int .i64 0, .int .i64 0, .int .i64 0, .int .i64 0, .int .i64 0, .int .i64 0, .int .i64 0, .int .i64 0, .int .i64 0, .int .i64 0, .int .i64 0, .int .i64 0, .int .i64 0, .int .i64 0, .bool false, .int .i64 0, .int .i64 0, .int .i64 0, .slice none 0 0, .slice none 0 0, .slice none 0 0, .int .i64 0] 29) = V) := hV.symm
  clear hV
  have HB := Lib.hid hB
  have c0 := cell_of_block (i := 0) k2 rfl
  have c1 := cell_of_block (i := 1) k2 rfl
  have c2 := cell_of_block (i := 2) k2 rfl
  have c3 := cell_of_block (i := 3) k2 rfl
  have cn := cell_of_block (i := n.toNat) k1 (mC_reg m ba bc (.slice s0 s1 s2) ta tc n.toNat (by omega))
  have cm := cell_of_block (i := mm.toNat) k1 (mC_reg m ba bc (.slice s0 s1 s2) ta tc mm.toNat (by omega))
  have hn2 : n < 16 := by omega
  have hm2 : mm < 16 := by omega
  have hA : wrap32 (m.r n.toNat) = a32 m n := rfl
  have hB2 : wrap32 (m.r mm.toNat) = a32 m mm := rfl
  obtain ⟨p0, p1⟩ := w32_bd (m.r n.toNat)
  obtain ⟨p2, p3⟩ := w32_bd (m.r mm.toNat)
  rw [hA] at p0 p1
  rw [hB2] at p2 p3
  have HK1 := Lib.hid k1
  have HK2 := Lib.hid k2
  have HK3 := Lib.hid k3
  clear hB k1 k2 k3
  have HQ : Hid (∀ nq, ∃ w1, w1 = V.drewN nq ∧ Below w.heap.size w w1 ∧ w1.heap = V.heap) := fun nq => ⟨_, rfl, HB.out.trans (Go.Joins.below_draws _ V nq), by simp⟩
  go_enter Tryd.func25, Tryd.ntmps25
  go_wp2_with fail
  rw [HV.out]
  go_quiet (fail)
  obtain ⟨w1, hw1, hb1, hh1⟩ := HQ.out nq
  rw [← hw1]
  have k1 := HK1.out
  have k2 := HK2.out
  have k3 := HK3.out
  rw [← hh1] at k1 k2 k3
  have HB1 := Lib.hid hb1
  have G1 := Lib.hid k1
  have G2 := Lib.hid k2
  have G3 := Lib.hid k3
  clear hw1 hb1 hh1 HQ HV HB HK1 HK2 HK3 c0 c1 c2 c3 cn cm
  have c0 := cell_of_block (i := 0) k2 rfl
  have c1 := cell_of_block (i := 1) k2 rfl
  have c2 := cell_of_block (i := 2) k2 rfl
  have c3 := cell_of_block (i := 3) k2 rfl
  clear k1 k2 k3
  have HP : Hid (PB w m ba bc (.slice s0 s1 s2) ta tc 5 n mm imm w1) := ⟨HB1.out, G1.out, G2.out, G3.out⟩
  clear HB1 G1 G2 G3
  have hnn : n.toNat < 16 := by omega
  have hq0 : -2147483648 ≤ (a32 m mm) := by omega
  have hq1 : (a32 m mm) ≤ 2147483647 := by omega
  go_wp2_with (first | (go_at_call 38; refine (set_any _ ba bc (.slice s0 s1 s2) ta tc w.heap.size (w.heap.size + 1) 5 n mm imm ((a32 m mm)) _ HP.out.b1 HP.out.b2 hn0 hn1 hq0 hq1).mono ?_; rintro e W2 ⟨rfl, rfl⟩; have HPF := Lib.hid (HP.out.set n.toNat hnn ((a32 m mm)))) | (refine wpList_load_row rfl 29 _ rfl w.heap.size rfl 29 (mC (setR m n.toNat (a32 m mm)) ba bc (.slice s0 s1 s2) ta tc) (0, 0) _ HPF.out.b1 Tryd.underlying29 rfl (mSize _ _ _ _ _ _) ?_) | (refine wpList_store_row rfl 29 _ _ rfl (w.heap.size + 1 + 1) (mC (setR m n.toNat (a32 m mm)) ba bc (.slice s0 s1 s2) ta tc) rfl rfl 29 (mC zeroM none 0 (.slice none 0 0) none 0) HPF.out.b3 (mSize _ _ _ _ _ _) rfl (mAll _ _ _ _ _ _ _ _) ?_) | fail)
  exact bodyPost_ret (v := .tuple #[.agg (mC (setR m n.toNat (a32 m mm)) ba bc (.slice s0 s1 s2) ta tc), .int .i64 0]) (res_m rfl rfl (setRow_heap _ _ _ _ _ _ HPF.out.b3)) rfl ⟨rfl, below_setRow HPF.out.bel (by omega) _⟩

set_option maxRecDepth 100000 in
set_option maxHeartbeats 4000000 in
theorem plain6 (m : Ma) (ba : Option Addr) (bc : Nat) (s0 : Option Addr) (s1 s2 : Nat) (ta : Option Addr) (tc : Nat) (n mm imm at' : Int) (w : World) (hn0 : 0 ≤ n) (hn1 : n ≤ 15) (hm0 : 0 ≤ mm) (hm1 : mm ≤ 15) (_hi0 : -10000 ≤ imm) (_hi1 : imm ≤ 10000) :
    Calls Tryd.prog 25 #[.agg (mC m ba bc (.slice s0 s1 s2) ta tc), .agg #[.int .i64 6, .int .i64 n, .int .i64 mm, .int .i64 imm], .int .i64 at'] w fun e w' => e = .returned (.tuple #[.agg (mC (setR m n.toNat (wrap32 (a32 m n + a32 m mm))) ba bc (.slice s0 s1 s2) ta tc), .int .i64 0]) ∧ Below w.heap.size w w' := by
  obtain ⟨V, hV⟩ : ∃ V, V = ((w.alloc (.cells (mC m ba bc (.slice s0 s1 s2) ta tc) 29)).alloc (.cells #[.int .i64 6, .int .i64 n, .int .i64 mm, .int .i64 imm] 45)).alloc (.cells (mC zeroM none 0 (.slice none 0 0) none 0) 29) := ⟨_, rfl⟩
  obtain ⟨hB, k1, k2, k3⟩ := pl_start w m ba bc (.slice s0 s1 s2) ta tc 6 n mm imm V hV
  have HV : Hid (((w.alloc (.cells (mC m ba bc (.slice s0 s1 s2) ta tc) 29)).alloc (.cells #[.int .i64 6, .int .i64 n, .int .i64 mm, .int .i64 imm] 45)).alloc (.cells #[.int .i64 0, .int .i64 0, .int .i64 0, .int .i64 0, .int .i64 0, .int .i64 0, .int .i64 0, .int .i64 0, .int .i64 0, .int .i64 0, .int .i64 0, .int .i64 0, .int .i64 0, .int .i64 0, .int .i64 0, .int .i64 0, .bool false, .int .i64 0, .int .i64 0, .int .i64 0, .slice none 0 0, .slice none 0 0, .slice none 0 0, .int .i64 0] 29) = V) := hV.symm
  clear hV
  have HB := Lib.hid hB
  have c0 := cell_of_block (i := 0) k2 rfl
  have c1 := cell_of_block (i := 1) k2 rfl
  have c2 := cell_of_block (i := 2) k2 rfl
  have c3 := cell_of_block (i := 3) k2 rfl
  have cn := cell_of_block (i := n.toNat) k1 (mC_reg m ba bc (.slice s0 s1 s2) ta tc n.toNat (by omega))
  have cm := cell_of_block (i := mm.toNat) k1 (mC_reg m ba bc (.slice s0 s1 s2) ta tc mm.toNat (by omega))
  have hn2 : n < 16 := by omega
  have hm2 : mm < 16 := by omega
  have hA : wrap32 (m.r n.toNat) = a32 m n := rfl
  have hB2 : wrap32 (m.r mm.toNat) = a32 m mm := rfl
  obtain ⟨p0, p1⟩ := w32_bd (m.r n.toNat)
  obtain ⟨p2, p3⟩ := w32_bd (m.r mm.toNat)
  rw [hA] at p0 p1
  rw [hB2] at p2 p3
  have HK1 := Lib.hid k1
  have HK2 := Lib.hid k2
  have HK3 := Lib.hid k3
  clear hB k1 k2 k3
  have HQ : Hid (∀ nq, ∃ w1, w1 = V.drewN nq ∧ Below w.heap.size w w1 ∧ w1.heap = V.heap) := fun nq => ⟨_, rfl, HB.out.trans (Go.Joins.below_draws _ V nq), by simp⟩
  go_enter Tryd.func25, Tryd.ntmps25
  go_wp2_with fail
  rw [HV.out]
  go_quiet (fail)
  obtain ⟨w1, hw1, hb1, hh1⟩ := HQ.out nq
  rw [← hw1]
  have k1 := HK1.out
  have k2 := HK2.out
  have k3 := HK3.out
  rw [← hh1] at k1 k2 k3
  have HB1 := Lib.hid hb1
  have G1 := Lib.hid k1
  have G2 := Lib.hid k2
  have G3 := Lib.hid k3
  clear hw1 hb1 hh1 HQ HV HB HK1 HK2 HK3 c0 c1 c2 c3 cn cm
  have c0 := cell_of_block (i := 0) k2 rfl
  have c1 := cell_of_block (i := 1) k2 rfl
  have c2 := cell_of_block (i := 2) k2 rfl
  have c3 := cell_of_block (i := 3) k2 rfl
  clear k1 k2 k3
  have HP : Hid (PB w m ba bc (.slice s0 s1 s2) ta tc 6 n mm imm w1) := ⟨HB1.out, G1.out, G2.out, G3.out⟩
  clear HB1 G1 G2 G3
  have hnn : n.toNat < 16 := by omega
  have hq0 : -2147483648 ≤ (wrap32 (a32 m n + a32 m mm)) := by have := w32_bd (a32 m n + a32 m mm); omega
  have hq1 : (wrap32 (a32 m n + a32 m mm)) ≤ 2147483647 := by have := w32_bd (a32 m n + a32 m mm); omega
  go_wp2_with (first | (go_at_call 38; refine (set_any _ ba bc (.slice s0 s1 s2) ta tc w.heap.size (w.heap.size + 1) 6 n mm imm ((wrap32 (a32 m n + a32 m mm))) _ HP.out.b1 HP.out.b2 hn0 hn1 hq0 hq1).mono ?_; rintro e W2 ⟨rfl, rfl⟩; have HPF := Lib.hid (HP.out.set n.toNat hnn ((wrap32 (a32 m n + a32 m mm))))) | (refine wpList_load_row rfl 29 _ rfl w.heap.size rfl 29 (mC (setR m n.toNat (wrap32 (a32 m n + a32 m mm))) ba bc (.slice s0 s1 s2) ta tc) (0, 0) _ HPF.out.b1 Tryd.underlying29 rfl (mSize _ _ _ _ _ _) ?_) | (refine wpList_store_row rfl 29 _ _ rfl (w.heap.size + 1 + 1) (mC (setR m n.toNat (wrap32 (a32 m n + a32 m mm))) ba bc (.slice s0 s1 s2) ta tc) rfl rfl 29 (mC zeroM none 0 (.slice none 0 0) none 0) HPF.out.b3 (mSize _ _ _ _ _ _) rfl (mAll _ _ _ _ _ _ _ _) ?_) | fail)
  exact bodyPost_ret (v := .tuple #[.agg (mC (setR m n.toNat (wrap32 (a32 m n + a32 m mm))) ba bc (.slice s0 s1 s2) ta tc), .int .i64 0]) (res_m rfl rfl (setRow_heap _ _ _ _ _ _ HPF.out.b3)) rfl ⟨rfl, below_setRow HPF.out.bel (by omega) _⟩

set_option maxRecDepth 100000 in
set_option maxHeartbeats 4000000 in
theorem plain7 (m : Ma) (ba : Option Addr) (bc : Nat) (s0 : Option Addr) (s1 s2 : Nat) (ta : Option Addr) (tc : Nat) (n mm imm at' : Int) (w : World) (hn0 : 0 ≤ n) (hn1 : n ≤ 15) (hm0 : 0 ≤ mm) (hm1 : mm ≤ 15) (_hi0 : -10000 ≤ imm) (_hi1 : imm ≤ 10000) :
    Calls Tryd.prog 25 #[.agg (mC m ba bc (.slice s0 s1 s2) ta tc), .agg #[.int .i64 7, .int .i64 n, .int .i64 mm, .int .i64 imm], .int .i64 at'] w fun e w' => e = .returned (.tuple #[.agg (mC (setR m n.toNat (wrap32 (a32 m n - a32 m mm))) ba bc (.slice s0 s1 s2) ta tc), .int .i64 0]) ∧ Below w.heap.size w w' := by
  obtain ⟨V, hV⟩ : ∃ V, V = ((w.alloc (.cells (mC m ba bc (.slice s0 s1 s2) ta tc) 29)).alloc (.cells #[.int .i64 7, .int .i64 n, .int .i64 mm, .int .i64 imm] 45)).alloc (.cells (mC zeroM none 0 (.slice none 0 0) none 0) 29) := ⟨_, rfl⟩
  obtain ⟨hB, k1, k2, k3⟩ := pl_start w m ba bc (.slice s0 s1 s2) ta tc 7 n mm imm V hV
  have HV : Hid (((w.alloc (.cells (mC m ba bc (.slice s0 s1 s2) ta tc) 29)).alloc (.cells #[.int .i64 7, .int .i64 n, .int .i64 mm, .int .i64 imm] 45)).alloc (.cells #[.int .i64 0, .int .i64 0, .int .i64 0, .int .i64 0, .int .i64 0, .int .i64 0, .int .i64 0, .int .i64 0, .int .i64 0, .int .i64 0, .int .i64 0, .int .i64 0, .int .i64 0, .int .i64 0, .int .i64 0, .int .i64 0, .bool false, .int .i64 0, .int .i64 0, .int .i64 0, .slice none 0 0, .slice none 0 0, .slice none 0 0, .int .i64 0] 29) = V) := hV.symm
  clear hV
  have HB := Lib.hid hB
  have c0 := cell_of_block (i := 0) k2 rfl
  have c1 := cell_of_block (i := 1) k2 rfl
  have c2 := cell_of_block (i := 2) k2 rfl
  have c3 := cell_of_block (i := 3) k2 rfl
  have cn := cell_of_block (i := n.toNat) k1 (mC_reg m ba bc (.slice s0 s1 s2) ta tc n.toNat (by omega))
  have cm := cell_of_block (i := mm.toNat) k1 (mC_reg m ba bc (.slice s0 s1 s2) ta tc mm.toNat (by omega))
  have hn2 : n < 16 := by omega
  have hm2 : mm < 16 := by omega
  have hA : wrap32 (m.r n.toNat) = a32 m n := rfl
  have hB2 : wrap32 (m.r mm.toNat) = a32 m mm := rfl
  obtain ⟨p0, p1⟩ := w32_bd (m.r n.toNat)
  obtain ⟨p2, p3⟩ := w32_bd (m.r mm.toNat)
  rw [hA] at p0 p1
  rw [hB2] at p2 p3
  have HK1 := Lib.hid k1
  have HK2 := Lib.hid k2
  have HK3 := Lib.hid k3
  clear hB k1 k2 k3
  have HQ : Hid (∀ nq, ∃ w1, w1 = V.drewN nq ∧ Below w.heap.size w w1 ∧ w1.heap = V.heap) := fun nq => ⟨_, rfl, HB.out.trans (Go.Joins.below_draws _ V nq), by simp⟩
  go_enter Tryd.func25, Tryd.ntmps25
  go_wp2_with fail
  rw [HV.out]
  go_quiet (fail)
  obtain ⟨w1, hw1, hb1, hh1⟩ := HQ.out nq
  rw [← hw1]
  have k1 := HK1.out
  have k2 := HK2.out
  have k3 := HK3.out
  rw [← hh1] at k1 k2 k3
  have HB1 := Lib.hid hb1
  have G1 := Lib.hid k1
  have G2 := Lib.hid k2
  have G3 := Lib.hid k3
  clear hw1 hb1 hh1 HQ HV HB HK1 HK2 HK3 c0 c1 c2 c3 cn cm
  have c0 := cell_of_block (i := 0) k2 rfl
  have c1 := cell_of_block (i := 1) k2 rfl
  have c2 := cell_of_block (i := 2) k2 rfl
  have c3 := cell_of_block (i := 3) k2 rfl
  clear k1 k2 k3
  have HP : Hid (PB w m ba bc (.slice s0 s1 s2) ta tc 7 n mm imm w1) := ⟨HB1.out, G1.out, G2.out, G3.out⟩
  clear HB1 G1 G2 G3
  have hnn : n.toNat < 16 := by omega
  have hq0 : -2147483648 ≤ (wrap32 (a32 m n - a32 m mm)) := by have := w32_bd (a32 m n - a32 m mm); omega
  have hq1 : (wrap32 (a32 m n - a32 m mm)) ≤ 2147483647 := by have := w32_bd (a32 m n - a32 m mm); omega
  go_wp2_with (first | (go_at_call 38; refine (set_any _ ba bc (.slice s0 s1 s2) ta tc w.heap.size (w.heap.size + 1) 7 n mm imm ((wrap32 (a32 m n - a32 m mm))) _ HP.out.b1 HP.out.b2 hn0 hn1 hq0 hq1).mono ?_; rintro e W2 ⟨rfl, rfl⟩; have HPF := Lib.hid (HP.out.set n.toNat hnn ((wrap32 (a32 m n - a32 m mm))))) | (refine wpList_load_row rfl 29 _ rfl w.heap.size rfl 29 (mC (setR m n.toNat (wrap32 (a32 m n - a32 m mm))) ba bc (.slice s0 s1 s2) ta tc) (0, 0) _ HPF.out.b1 Tryd.underlying29 rfl (mSize _ _ _ _ _ _) ?_) | (refine wpList_store_row rfl 29 _ _ rfl (w.heap.size + 1 + 1) (mC (setR m n.toNat (wrap32 (a32 m n - a32 m mm))) ba bc (.slice s0 s1 s2) ta tc) rfl rfl 29 (mC zeroM none 0 (.slice none 0 0) none 0) HPF.out.b3 (mSize _ _ _ _ _ _) rfl (mAll _ _ _ _ _ _ _ _) ?_) | fail)
  exact bodyPost_ret (v := .tuple #[.agg (mC (setR m n.toNat (wrap32 (a32 m n - a32 m mm))) ba bc (.slice s0 s1 s2) ta tc), .int .i64 0]) (res_m rfl rfl (setRow_heap _ _ _ _ _ _ HPF.out.b3)) rfl ⟨rfl, below_setRow HPF.out.bel (by omega) _⟩

set_option maxRecDepth 100000 in
set_option maxHeartbeats 4000000 in
theorem plain8 (m : Ma) (ba : Option Addr) (bc : Nat) (s0 : Option Addr) (s1 s2 : Nat) (ta : Option Addr) (tc : Nat) (n mm imm at' : Int) (w : World) (hn0 : 0 ≤ n) (hn1 : n ≤ 15) (hm0 : 0 ≤ mm) (hm1 : mm ≤ 15) (_hi0 : -10000 ≤ imm) (_hi1 : imm ≤ 10000) :
    Calls Tryd.prog 25 #[.agg (mC m ba bc (.slice s0 s1 s2) ta tc), .agg #[.int .i64 8, .int .i64 n, .int .i64 mm, .int .i64 imm], .int .i64 at'] w fun e w' => e = .returned (.tuple #[.agg (mC (setR m n.toNat (bits .and .i32 (a32 m n) (a32 m mm))) ba bc (.slice s0 s1 s2) ta tc), .int .i64 0]) ∧ Below w.heap.size w w' := by
  obtain ⟨V, hV⟩ : ∃ V, V = ((w.alloc (.cells (mC m ba bc (.slice s0 s1 s2) ta tc) 29)).alloc (.cells #[.int .i64 8, .int .i64 n, .int .i64 mm, .int .i64 imm] 45)).alloc (.cells (mC zeroM none 0 (.slice none 0 0) none 0) 29) := ⟨_, rfl⟩
  obtain ⟨hB, k1, k2, k3⟩ := pl_start w m ba bc (.slice s0 s1 s2) ta tc 8 n mm imm V hV
  have HV : Hid (((w.alloc (.cells (mC m ba bc (.slice s0 s1 s2) ta tc) 29)).alloc (.cells #[.int .i64 8, .int .i64 n, .int .i64 mm, .int .i64 imm] 45)).alloc (.cells #[.int .i64 0, .int .i64 0, .int .i64 0, .int .i64 0, .int .i64 0, .int .i64 0, .int .i64 0, .int .i64 0, .int .i64 0, .int .i64 0, .int .i64 0, .int .i64 0, .int .i64 0, .int .i64 0, .int .i64 0, .int .i64 0, .bool false, .int .i64 0, .int .i64 0, .int .i64 0, .slice none 0 0, .slice none 0 0, .slice none 0 0, .int .i64 0] 29) = V) := hV.symm
  clear hV
  have HB := Lib.hid hB
  have c0 := cell_of_block (i := 0) k2 rfl
  have c1 := cell_of_block (i := 1) k2 rfl
  have c2 := cell_of_block (i := 2) k2 rfl
  have c3 := cell_of_block (i := 3) k2 rfl
  have cn := cell_of_block (i := n.toNat) k1 (mC_reg m ba bc (.slice s0 s1 s2) ta tc n.toNat (by omega))
  have cm := cell_of_block (i := mm.toNat) k1 (mC_reg m ba bc (.slice s0 s1 s2) ta tc mm.toNat (by omega))
  have hn2 : n < 16 := by omega
  have hm2 : mm < 16 := by omega
  have hA : wrap32 (m.r n.toNat) = a32 m n := rfl
  have hB2 : wrap32 (m.r mm.toNat) = a32 m mm := rfl
  obtain ⟨p0, p1⟩ := w32_bd (m.r n.toNat)
  obtain ⟨p2, p3⟩ := w32_bd (m.r mm.toNat)
  rw [hA] at p0 p1
  rw [hB2] at p2 p3
  have HK1 := Lib.hid k1
  have HK2 := Lib.hid k2
  have HK3 := Lib.hid k3
  clear hB k1 k2 k3
  have HQ : Hid (∀ nq, ∃ w1, w1 = V.drewN nq ∧ Below w.heap.size w w1 ∧ w1.heap = V.heap) := fun nq => ⟨_, rfl, HB.out.trans (Go.Joins.below_draws _ V nq), by simp⟩
  go_enter Tryd.func25, Tryd.ntmps25
  go_wp2_with fail
  rw [HV.out]
  go_quiet (fail)
  obtain ⟨w1, hw1, hb1, hh1⟩ := HQ.out nq
  rw [← hw1]
  have k1 := HK1.out
  have k2 := HK2.out
  have k3 := HK3.out
  rw [← hh1] at k1 k2 k3
  have HB1 := Lib.hid hb1
  have G1 := Lib.hid k1
  have G2 := Lib.hid k2
  have G3 := Lib.hid k3
  clear hw1 hb1 hh1 HQ HV HB HK1 HK2 HK3 c0 c1 c2 c3 cn cm
  have c0 := cell_of_block (i := 0) k2 rfl
  have c1 := cell_of_block (i := 1) k2 rfl
  have c2 := cell_of_block (i := 2) k2 rfl
  have c3 := cell_of_block (i := 3) k2 rfl
  clear k1 k2 k3
  have HP : Hid (PB w m ba bc (.slice s0 s1 s2) ta tc 8 n mm imm w1) := ⟨HB1.out, G1.out, G2.out, G3.out⟩
  clear HB1 G1 G2 G3
  have hnn : n.toNat < 16 := by omega
  have hq0 : -2147483648 ≤ (bits .and .i32 (a32 m n) (a32 m mm)) := by have := bits32 .and (a32 m n) (a32 m mm) (by simp); omega
  have hq1 : (bits .and .i32 (a32 m n) (a32 m mm)) ≤ 2147483647 := by have := bits32 .and (a32 m n) (a32 m mm) (by simp); omega
  go_wp2_with (first | (go_at_call 38; refine (set_any _ ba bc (.slice s0 s1 s2) ta tc w.heap.size (w.heap.size + 1) 8 n mm imm ((bits .and .i32 (a32 m n) (a32 m mm))) _ HP.out.b1 HP.out.b2 hn0 hn1 hq0 hq1).mono ?_; rintro e W2 ⟨rfl, rfl⟩; have HPF := Lib.hid (HP.out.set n.toNat hnn ((bits .and .i32 (a32 m n) (a32 m mm))))) | (refine wpList_load_row rfl 29 _ rfl w.heap.size rfl 29 (mC (setR m n.toNat (bits .and .i32 (a32 m n) (a32 m mm))) ba bc (.slice s0 s1 s2) ta tc) (0, 0) _ HPF.out.b1 Tryd.underlying29 rfl (mSize _ _ _ _ _ _) ?_) | (refine wpList_store_row rfl 29 _ _ rfl (w.heap.size + 1 + 1) (mC (setR m n.toNat (bits .and .i32 (a32 m n) (a32 m mm))) ba bc (.slice s0 s1 s2) ta tc) rfl rfl 29 (mC zeroM none 0 (.slice none 0 0) none 0) HPF.out.b3 (mSize _ _ _ _ _ _) rfl (mAll _ _ _ _ _ _ _ _) ?_) | fail)
  exact bodyPost_ret (v := .tuple #[.agg (mC (setR m n.toNat (bits .and .i32 (a32 m n) (a32 m mm))) ba bc (.slice s0 s1 s2) ta tc), .int .i64 0]) (res_m rfl rfl (setRow_heap _ _ _ _ _ _ HPF.out.b3)) rfl ⟨rfl, below_setRow HPF.out.bel (by omega) _⟩

set_option maxRecDepth 100000 in
set_option maxHeartbeats 4000000 in
theorem plain9 (m : Ma) (ba : Option Addr) (bc : Nat) (s0 : Option Addr) (s1 s2 : Nat) (ta : Option Addr) (tc : Nat) (n mm imm at' : Int) (w : World) (hn0 : 0 ≤ n) (hn1 : n ≤ 15) (hm0 : 0 ≤ mm) (hm1 : mm ≤ 15) (_hi0 : -10000 ≤ imm) (_hi1 : imm ≤ 10000) :
    Calls Tryd.prog 25 #[.agg (mC m ba bc (.slice s0 s1 s2) ta tc), .agg #[.int .i64 9, .int .i64 n, .int .i64 mm, .int .i64 imm], .int .i64 at'] w fun e w' => e = .returned (.tuple #[.agg (mC (setR m n.toNat (bits .or .i32 (a32 m n) (a32 m mm))) ba bc (.slice s0 s1 s2) ta tc), .int .i64 0]) ∧ Below w.heap.size w w' := by
  obtain ⟨V, hV⟩ : ∃ V, V = ((w.alloc (.cells (mC m ba bc (.slice s0 s1 s2) ta tc) 29)).alloc (.cells #[.int .i64 9, .int .i64 n, .int .i64 mm, .int .i64 imm] 45)).alloc (.cells (mC zeroM none 0 (.slice none 0 0) none 0) 29) := ⟨_, rfl⟩
  obtain ⟨hB, k1, k2, k3⟩ := pl_start w m ba bc (.slice s0 s1 s2) ta tc 9 n mm imm V hV
  have HV : Hid (((w.alloc (.cells (mC m ba bc (.slice s0 s1 s2) ta tc) 29)).alloc (.cells #[.int .i64 9, .int .i64 n, .int .i64 mm, .int .i64 imm] 45)).alloc (.cells #[.int .i64 0, .int .i64 0, .int .i64 0, .int .i64 0, .int .i64 0, .int .i64 0, .int .i64 0, .int .i64 0, .int .i64 0, .int .i64 0, .int .i64 0, .int .i64 0, .int .i64 0, .int .i64 0, .int .i64 0, .int .i64 0, .bool false, .int .i64 0, .int .i64 0, .int .i64 0, .slice none 0 0, .slice none 0 0, .slice none 0 0, .int .i64 0] 29) = V) := hV.symm
  clear hV
  have HB := Lib.hid hB
  have c0 := cell_of_block (i := 0) k2 rfl
  have c1 := cell_of_block (i := 1) k2 rfl
  have c2 := cell_of_block (i := 2) k2 rfl
  have c3 := cell_of_block (i := 3) k2 rfl
  have cn := cell_of_block (i := n.toNat) k1 (mC_reg m ba bc (.slice s0 s1 s2) ta tc n.toNat (by omega))
  have cm := cell_of_block (i := mm.toNat) k1 (mC_reg m ba bc (.slice s0 s1 s2) ta tc mm.toNat (by omega))
  have hn2 : n < 16 := by omega
  have hm2 : mm < 16 := by omega
  have hA : wrap32 (m.r n.toNat) = a32 m n := rfl
  have hB2 : wrap32 (m.r mm.toNat) = a32 m mm := rfl
  obtain ⟨p0, p1⟩ := w32_bd (m.r n.toNat)
  obtain ⟨p2, p3⟩ := w32_bd (m.r mm.toNat)
  rw [hA] at p0 p1
  rw [hB2] at p2 p3
  have HK1 := Lib.hid k1
  have HK2 := Lib.hid k2
  have HK3 := Lib.hid k3
  clear hB k1 k2 k3
  have HQ : Hid (∀ nq, ∃ w1, w1 = V.drewN nq ∧ Below w.heap.size w w1 ∧ w1.heap = V.heap) := fun nq => ⟨_, rfl, HB.out.trans (Go.Joins.below_draws _ V nq), by simp⟩
  go_enter Tryd.func25, Tryd.ntmps25
  go_wp2_with fail
  rw [HV.out]
  go_quiet (fail)
  obtain ⟨w1, hw1, hb1, hh1⟩ := HQ.out nq
  rw [← hw1]
  have k1 := HK1.out
  have k2 := HK2.out
  have k3 := HK3.out
  rw [← hh1] at k1 k2 k3
  have HB1 := Lib.hid hb1
  have G1 := Lib.hid k1
  have G2 := Lib.hid k2
  have G3 := Lib.hid k3
  clear hw1 hb1 hh1 HQ HV HB HK1 HK2 HK3 c0 c1 c2 c3 cn cm
  have c0 := cell_of_block (i := 0) k2 rfl
  have c1 := cell_of_block (i := 1) k2 rfl
  have c2 := cell_of_block (i := 2) k2 rfl
  have c3 := cell_of_block (i := 3) k2 rfl
  clear k1 k2 k3
  have HP : Hid (PB w m ba bc (.slice s0 s1 s2) ta tc 9 n mm imm w1) := ⟨HB1.out, G1.out, G2.out, G3.out⟩
  clear HB1 G1 G2 G3
  have hnn : n.toNat < 16 := by omega
  have hq0 : -2147483648 ≤ (bits .or .i32 (a32 m n) (a32 m mm)) := by have := bits32 .or (a32 m n) (a32 m mm) (by simp); omega
  have hq1 : (bits .or .i32 (a32 m n) (a32 m mm)) ≤ 2147483647 := by have := bits32 .or (a32 m n) (a32 m mm) (by simp); omega
  go_wp2_with (first | (go_at_call 38; refine (set_any _ ba bc (.slice s0 s1 s2) ta tc w.heap.size (w.heap.size + 1) 9 n mm imm ((bits .or .i32 (a32 m n) (a32 m mm))) _ HP.out.b1 HP.out.b2 hn0 hn1 hq0 hq1).mono ?_; rintro e W2 ⟨rfl, rfl⟩; have HPF := Lib.hid (HP.out.set n.toNat hnn ((bits .or .i32 (a32 m n) (a32 m mm))))) | (refine wpList_load_row rfl 29 _ rfl w.heap.size rfl 29 (mC (setR m n.toNat (bits .or .i32 (a32 m n) (a32 m mm))) ba bc (.slice s0 s1 s2) ta tc) (0, 0) _ HPF.out.b1 Tryd.underlying29 rfl (mSize _ _ _ _ _ _) ?_) | (refine wpList_store_row rfl 29 _ _ rfl (w.heap.size + 1 + 1) (mC (setR m n.toNat (bits .or .i32 (a32 m n) (a32 m mm))) ba bc (.slice s0 s1 s2) ta tc) rfl rfl 29 (mC zeroM none 0 (.slice none 0 0) none 0) HPF.out.b3 (mSize _ _ _ _ _ _) rfl (mAll _ _ _ _ _ _ _ _) ?_) | fail)
  exact bodyPost_ret (v := .tuple #[.agg (mC (setR m n.toNat (bits .or .i32 (a32 m n) (a32 m mm))) ba bc (.slice s0 s1 s2) ta tc), .int .i64 0]) (res_m rfl rfl (setRow_heap _ _ _ _ _ _ HPF.out.b3)) rfl ⟨rfl, below_setRow HPF.out.bel (by omega) _⟩

set_option maxRecDepth 100000 in
set_option maxHeartbeats 4000000 in
theorem plain10 (m : Ma) (ba : Option Addr) (bc : Nat) (s0 : Option Addr) (s1 s2 : Nat) (ta : Option Addr) (tc : Nat) (n mm imm at' : Int) (w : World) (hn0 : 0 ≤ n) (hn1 : n ≤ 15) (hm0 : 0 ≤ mm) (hm1 : mm ≤ 15) (_hi0 : -10000 ≤ imm) (_hi1 : imm ≤ 10000) :
    Calls Tryd.prog 25 #[.agg (mC m ba bc (.slice s0 s1 s2) ta tc), .agg #[.int .i64 10, .int .i64 n, .int .i64 mm, .int .i64 imm], .int .i64 at'] w fun e w' => e = .returned (.tuple #[.agg (mC (setR m n.toNat (bits .xor .i32 (a32 m n) (a32 m mm))) ba bc (.slice s0 s1 s2) ta tc), .int .i64 0]) ∧ Below w.heap.size w w' := by
  obtain ⟨V, hV⟩ : ∃ V, V = ((w.alloc (.cells (mC m ba bc (.slice s0 s1 s2) ta tc) 29)).alloc (.cells #[.int .i64 10, .int .i64 n, .int .i64 mm, .int .i64 imm] 45)).alloc (.cells (mC zeroM none 0 (.slice none 0 0) none 0) 29) := ⟨_, rfl⟩
  obtain ⟨hB, k1, k2, k3⟩ := pl_start w m ba bc (.slice s0 s1 s2) ta tc 10 n mm imm V hV
  have HV : Hid (((w.alloc (.cells (mC m ba bc (.slice s0 s1 s2) ta tc) 29)).alloc (.cells #[.int .i64 10, .int .i64 n, .int .i64 mm, .int .i64 imm] 45)).alloc (.cells #[.int .i64 0, .int .i64 0, .int .i64 0, .int .i64 0, .int .i64 0, .int .i64 0, .int .i64 0, .int .i64 0, .int .i64 0, .int .i64 0, .int .i64 0, .int .i64 0, .int .i64 0, .int .i64 0, .int .i64 0, .int .i64 0, .bool false, .int .i64 0, .int .i64 0, .int .i64 0, .slice none 0 0, .slice none 0 0, .slice none 0 0, .int .i64 0] 29) = V) := hV.symm
  clear hV
  have HB := Lib.hid hB
  have c0 := cell_of_block (i := 0) k2 rfl
  have c1 := cell_of_block (i := 1) k2 rfl
  have c2 := cell_of_block (i := 2) k2 rfl
  have c3 := cell_of_block (i := 3) k2 rfl
  have cn := cell_of_block (i := n.toNat) k1 (mC_reg m ba bc (.slice s0 s1 s2) ta tc n.toNat (by omega))
  have cm := cell_of_block (i := mm.toNat) k1 (mC_reg m ba bc (.slice s0 s1 s2) ta tc mm.toNat (by omega))
  have hn2 : n < 16 := by omega
  have hm2 : mm < 16 := by omega
  have hA : wrap32 (m.r n.toNat) = a32 m n := rfl
  have hB2 : wrap32 (m.r mm.toNat) = a32 m mm := rfl
  obtain ⟨p0, p1⟩ := w32_bd (m.r n.toNat)
  obtain ⟨p2, p3⟩ := w32_bd (m.r mm.toNat)
  rw [hA] at p0 p1
  rw [hB2] at p2 p3
  have HK1 := Lib.hid k1
  have HK2 := Lib.hid k2
  have HK3 := Lib.hid k3
  clear hB k1 k2 k3
  have HQ : Hid (∀ nq, ∃ w1, w1 = V.drewN nq ∧ Below w.heap.size w w1 ∧ w1.heap = V.heap) := fun nq => ⟨_, rfl, HB.out.trans (Go.Joins.below_draws _ V nq), by simp⟩
  go_enter Tryd.func25, Tryd.ntmps25
  go_wp2_with fail
  rw [HV.out]
  go_quiet (fail)
  obtain ⟨w1, hw1, hb1, hh1⟩ := HQ.out nq
  rw [← hw1]
  have k1 := HK1.out
  have k2 := HK2.out
  have k3 := HK3.out
  rw [← hh1] at k1 k2 k3
  have HB1 := Lib.hid hb1
  have G1 := Lib.hid k1
  have G2 := Lib.hid k2
  have G3 := Lib.hid k3
  clear hw1 hb1 hh1 HQ HV HB HK1 HK2 HK3 c0 c1 c2 c3 cn cm
  have c0 := cell_of_block (i := 0) k2 rfl
  have c1 := cell_of_block (i := 1) k2 rfl
  have c2 := cell_of_block (i := 2) k2 rfl
  have c3 := cell_of_block (i := 3) k2 rfl
  clear k1 k2 k3
  have HP : Hid (PB w m ba bc (.slice s0 s1 s2) ta tc 10 n mm imm w1) := ⟨HB1.out, G1.out, G2.out, G3.out⟩
  clear HB1 G1 G2 G3
  have hnn : n.toNat < 16 := by omega
  have hq0 : -2147483648 ≤ (bits .xor .i32 (a32 m n) (a32 m mm)) := by have := bits32 .xor (a32 m n) (a32 m mm) (by simp); omega
  have hq1 : (bits .xor .i32 (a32 m n) (a32 m mm)) ≤ 2147483647 := by have := bits32 .xor (a32 m n) (a32 m mm) (by simp); omega
  go_wp2_with (first | (go_at_call 38; refine (set_any _ ba bc (.slice s0 s1 s2) ta tc w.heap.size (w.heap.size + 1) 10 n mm imm ((bits .xor .i32 (a32 m n) (a32 m mm))) _ HP.out.b1 HP.out.b2 hn0 hn1 hq0 hq1).mono ?_; rintro e W2 ⟨rfl, rfl⟩; have HPF := Lib.hid (HP.out.set n.toNat hnn ((bits .xor .i32 (a32 m n) (a32 m mm))))) | (refine wpList_load_row rfl 29 _ rfl w.heap.size rfl 29 (mC (setR m n.toNat (bits .xor .i32 (a32 m n) (a32 m mm))) ba bc (.slice s0 s1 s2) ta tc) (0, 0) _ HPF.out.b1 Tryd.underlying29 rfl (mSize _ _ _ _ _ _) ?_) | (refine wpList_store_row rfl 29 _ _ rfl (w.heap.size + 1 + 1) (mC (setR m n.toNat (bits .xor .i32 (a32 m n) (a32 m mm))) ba bc (.slice s0 s1 s2) ta tc) rfl rfl 29 (mC zeroM none 0 (.slice none 0 0) none 0) HPF.out.b3 (mSize _ _ _ _ _ _) rfl (mAll _ _ _ _ _ _ _ _) ?_) | fail)
  exact bodyPost_ret (v := .tuple #[.agg (mC (setR m n.toNat (bits .xor .i32 (a32 m n) (a32 m mm))) ba bc (.slice s0 s1 s2) ta tc), .int .i64 0]) (res_m rfl rfl (setRow_heap _ _ _ _ _ _ HPF.out.b3)) rfl ⟨rfl, below_setRow HPF.out.bel (by omega) _⟩

end Go.Proofs.YtabepbaldadmgaaDoor
