/- The document's own Plain: instructions that change T. -/
import Derived.Test.YtabepbaldadmgaaDoorSmD
namespace Go.Proofs.YtabepbaldadmgaaDoor
open Go.RowKit Isa

set_option maxRecDepth 100000 in
set_option maxHeartbeats 4000000 in
theorem plain11 (m : Ma) (ba : Option Addr) (bc : Nat) (s0 : Option Addr) (s1 s2 : Nat) (ta : Option Addr) (tc : Nat) (n mm imm at' : Int) (w : World) (hn0 : 0 ≤ n) (hn1 : n ≤ 15) (hm0 : 0 ≤ mm) (hm1 : mm ≤ 15) (_hi0 : -10000 ≤ imm) (_hi1 : imm ≤ 10000) :
    Calls Tryd.prog 25 #[.agg (mC m ba bc (.slice s0 s1 s2) ta tc), .agg #[.int .i64 11, .int .i64 n, .int .i64 mm, .int .i64 imm], .int .i64 at'] w fun e w' => e = .returned (.tuple #[.agg (mC ({ m with t := (bits .and .i32 (a32 m n) (a32 m mm) == 0) }) ba bc (.slice s0 s1 s2) ta tc), .int .i64 0]) ∧ Below w.heap.size w w' := by
  obtain ⟨V, hV⟩ : ∃ V, V = ((w.alloc (.cells (mC m ba bc (.slice s0 s1 s2) ta tc) 29)).alloc (.cells #[.int .i64 11, .int .i64 n, .int .i64 mm, .int .i64 imm] 45)).alloc (.cells (mC zeroM none 0 (.slice none 0 0) none 0) 29) := ⟨_, rfl⟩
  obtain ⟨hB, k1, k2, k3⟩ := pl_start w m ba bc (.slice s0 s1 s2) ta tc 11 n mm imm V hV
  have HV : Hid (((w.alloc (.cells (mC m ba bc (.slice s0 s1 s2) ta tc) 29)).alloc (.cells #[.int .i64 11, .int .i64 n, .int .i64 mm, .int .i64 imm] 45)).alloc (.cells #[.int .i64 0, .int .i64 0, .int .i64 0, .int .i64 0, .int .i64 0, .int .i64 0, .int .i64 0, .int .i64 0, .int .i64 0, .int .i64 0, .int .i64 0, .int .i64 0, .int .i64 0, .int .i64 0, .int .i64 0, .int .i64 0, .bool false, .int .i64 0, .int .i64 0, .int .i64 0, .slice none 0 0, .slice none 0 0, .slice none 0 0, .int .i64 0] 29) = V) := hV.symm
  clear hV
  have HB := Lib.hid hB
  have c0 := cell_of_block (i := 0) k2 rfl
  have c1 := cell_of_block (i := 1) k2 rfl
  have c2 := cell_of_block (i := 2) k2 rfl
  have c3 := cell_of_block (i := 3) k2 rfl
  have cn := cell_of_block (i := n.toNat) k1 (mC_reg m ba bc (.slice s0 s1 s2) ta tc n.toNat (by omega))
  have cm := cell_of_block (i := mm.toNat) k1 (mC_reg m ba bc (.slice s0 s1 s2) ta tc mm.toNat (by omega))
  have hn2 : n < 16 := by omega
  have hm2 : mm < 16 := by omega
  have hA : wrap32 (m.r n.toNat) = a32 m n := rfl
  have hB2 : wrap32 (m.r mm.toNat) = a32 m mm := rfl
  obtain ⟨p0, p1⟩ := w32_bd (m.r n.toNat)
  obtain ⟨p2, p3⟩ := w32_bd (m.r mm.toNat)
  rw [hA] at p0 p1
  rw [hB2] at p2 p3
  have HK1 := Lib.hid k1
  have HK2 := Lib.hid k2
  have HK3 := Lib.hid k3
  clear hB k1 k2 k3
  have HQ : Hid (∀ nq, ∃ w1, w1 = V.drewN nq ∧ Below w.heap.size w w1 ∧ w1.heap = V.heap) := fun nq => ⟨_, rfl, HB.out.trans (Go.Joins.below_draws _ V nq), by simp⟩
  go_enter Tryd.func25, Tryd.ntmps25
  go_wp2_with fail
  rw [HV.out]
  go_quiet (fail)
  obtain ⟨w1, hw1, hb1, hh1⟩ := HQ.out nq
  rw [← hw1]
  have k1 := HK1.out
  have k2 := HK2.out
  have k3 := HK3.out
  rw [← hh1] at k1 k2 k3
  have HB1 := Lib.hid hb1
  have G1 := Lib.hid k1
  have G2 := Lib.hid k2
  have G3 := Lib.hid k3
  clear hw1 hb1 hh1 HQ HV HB HK1 HK2 HK3 c0 c1 c2 c3 cn cm
  have c0 := cell_of_block (i := 0) k2 rfl
  have c1 := cell_of_block (i := 1) k2 rfl
  have c2 := cell_of_block (i := 2) k2 rfl
  have c3 := cell_of_block (i := 3) k2 rfl
  clear k1 k2 k3
  have HP : Hid (PB w m ba bc (.slice s0 s1 s2) ta tc 11 n mm imm w1) := ⟨HB1.out, G1.out, G2.out, G3.out⟩
  clear HB1 G1 G2 G3
  obtain ⟨t0, t1⟩ := HP.out.tcell
  have HPF := Lib.hid (HP.out.tt (bits .and .i32 (a32 m n) (a32 m mm) == 0))
  go_wp2_with (first | (refine wpList_load_row rfl 29 _ rfl w.heap.size rfl 29 (mC ({ m with t := (bits .and .i32 (a32 m n) (a32 m mm) == 0) }) ba bc (.slice s0 s1 s2) ta tc) (0, 0) _ HPF.out.b1 Tryd.underlying29 rfl (mSize _ _ _ _ _ _) ?_) | (refine wpList_store_row rfl 29 _ _ rfl (w.heap.size + 1 + 1) (mC ({ m with t := (bits .and .i32 (a32 m n) (a32 m mm) == 0) }) ba bc (.slice s0 s1 s2) ta tc) rfl rfl 29 (mC zeroM none 0 (.slice none 0 0) none 0) HPF.out.b3 (mSize _ _ _ _ _ _) rfl (mAll _ _ _ _ _ _ _ _) ?_) | fail)
  exact bodyPost_ret (v := .tuple #[.agg (mC ({ m with t := (bits .and .i32 (a32 m n) (a32 m mm) == 0) }) ba bc (.slice s0 s1 s2) ta tc), .int .i64 0]) (res_m rfl rfl (setRow_heap _ _ _ _ _ _ HPF.out.b3)) rfl ⟨rfl, below_setRow HPF.out.bel (by omega) _⟩

set_option maxRecDepth 100000 in
set_option maxHeartbeats 4000000 in
theorem plain12 (m : Ma) (ba : Option Addr) (bc : Nat) (s0 : Option Addr) (s1 s2 : Nat) (ta : Option Addr) (tc : Nat) (n mm imm at' : Int) (w : World) (hn0 : 0 ≤ n) (hn1 : n ≤ 15) (hm0 : 0 ≤ mm) (hm1 : mm ≤ 15) (_hi0 : -10000 ≤ imm) (_hi1 : imm ≤ 10000) :
    Calls Tryd.prog 25 #[.agg (mC m ba bc (.slice s0 s1 s2) ta tc), .agg #[.int .i64 12, .int .i64 n, .int .i64 mm, .int .i64 imm], .int .i64 at'] w fun e w' => e = .returned (.tuple #[.agg (mC ({ m with t := (a32 m n == a32 m mm) }) ba bc (.slice s0 s1 s2) ta tc), .int .i64 0]) ∧ Below w.heap.size w w' := by
  obtain ⟨V, hV⟩ : ∃ V, V = ((w.alloc (.cells (mC m ba bc (.slice s0 s1 s2) ta tc) 29)).alloc (.cells #[.int .i64 12, .int .i64 n, .int .i64 mm, .int .i64 imm] 45)).alloc (.cells (mC zeroM none 0 (.slice none 0 0) none 0) 29) := ⟨_, rfl⟩
  obtain ⟨hB, k1, k2, k3⟩ := pl_start w m ba bc (.slice s0 s1 s2) ta tc 12 n mm imm V hV
  have HV : Hid (((w.alloc (.cells (mC m ba bc (.slice s0 s1 s2) ta tc) 29)).alloc (.cells #[.int .i64 12, .int .i64 n, .int .i64 mm, .int .i64 imm] 45)).alloc (.cells #[.int .i64 0, .int .i64 0, .int .i64 0, .int .i64 0, .int .i64 0, .int .i64 0, .int .i64 0, .int .i64 0, .int .i64 0, .int .i64 0, .int .i64 0, .int .i64 0, .int .i64 0, .int .i64 0, .int .i64 0, .int .i64 0, .bool false, .int .i64 0, .int .i64 0, .int .i64 0, .slice none 0 0, .slice none 0 0, .slice none 0 0, .int .i64 0] 29) = V) := hV.symm
  clear hV
  have HB := Lib.hid hB
  have c0 := cell_of_block (i := 0) k2 rfl
  have c1 := cell_of_block (i := 1) k2 rfl
  have c2 := cell_of_block (i := 2) k2 rfl
  have c3 := cell_of_block (i := 3) k2 rfl
  have cn := cell_of_block (i := n.toNat) k1 (mC_reg m ba bc (.slice s0 s1 s2) ta tc n.toNat (by omega))
  have cm := cell_of_block (i := mm.toNat) k1 (mC_reg m ba bc (.slice s0 s1 s2) ta tc mm.toNat (by omega))
  have hn2 : n < 16 := by omega
  have hm2 : mm < 16 := by omega
  have hA : wrap32 (m.r n.toNat) = a32 m n := rfl
  have hB2 : wrap32 (m.r mm.toNat) = a32 m mm := rfl
  obtain ⟨p0, p1⟩ := w32_bd (m.r n.toNat)
  obtain ⟨p2, p3⟩ := w32_bd (m.r mm.toNat)
  rw [hA] at p0 p1
  rw [hB2] at p2 p3
  have HK1 := Lib.hid k1
  have HK2 := Lib.hid k2
  have HK3 := Lib.hid k3
  clear hB k1 k2 k3
  have HQ : Hid (∀ nq, ∃ w1, w1 = V.drewN nq ∧ Below w.heap.size w w1 ∧ w1.heap = V.heap) := fun nq => ⟨_, rfl, HB.out.trans (Go.Joins.below_draws _ V nq), by simp⟩
  go_enter Tryd.func25, Tryd.ntmps25
  go_wp2_with fail
  rw [HV.out]
  go_quiet (fail)
  obtain ⟨w1, hw1, hb1, hh1⟩ := HQ.out nq
  rw [← hw1]
  have k1 := HK1.out
  have k2 := HK2.out
  have k3 := HK3.out
  rw [← hh1] at k1 k2 k3
  have HB1 := Lib.hid hb1
  have G1 := Lib.hid k1
  have G2 := Lib.hid k2
  have G3 := Lib.hid k3
  clear hw1 hb1 hh1 HQ HV HB HK1 HK2 HK3 c0 c1 c2 c3 cn cm
  have c0 := cell_of_block (i := 0) k2 rfl
  have c1 := cell_of_block (i := 1) k2 rfl
  have c2 := cell_of_block (i := 2) k2 rfl
  have c3 := cell_of_block (i := 3) k2 rfl
  clear k1 k2 k3
  have HP : Hid (PB w m ba bc (.slice s0 s1 s2) ta tc 12 n mm imm w1) := ⟨HB1.out, G1.out, G2.out, G3.out⟩
  clear HB1 G1 G2 G3
  obtain ⟨t0, t1⟩ := HP.out.tcell
  have HPF := Lib.hid (HP.out.tt (a32 m n == a32 m mm))
  go_wp2_with (first | (refine wpList_load_row rfl 29 _ rfl w.heap.size rfl 29 (mC ({ m with t := (a32 m n == a32 m mm) }) ba bc (.slice s0 s1 s2) ta tc) (0, 0) _ HPF.out.b1 Tryd.underlying29 rfl (mSize _ _ _ _ _ _) ?_) | (refine wpList_store_row rfl 29 _ _ rfl (w.heap.size + 1 + 1) (mC ({ m with t := (a32 m n == a32 m mm) }) ba bc (.slice s0 s1 s2) ta tc) rfl rfl 29 (mC zeroM none 0 (.slice none 0 0) none 0) HPF.out.b3 (mSize _ _ _ _ _ _) rfl (mAll _ _ _ _ _ _ _ _) ?_) | fail)
  exact bodyPost_ret (v := .tuple #[.agg (mC ({ m with t := (a32 m n == a32 m mm) }) ba bc (.slice s0 s1 s2) ta tc), .int .i64 0]) (res_m rfl rfl (setRow_heap _ _ _ _ _ _ HPF.out.b3)) rfl ⟨rfl, below_setRow HPF.out.bel (by omega) _⟩

set_option maxRecDepth 100000 in
set_option maxHeartbeats 4000000 in
theorem plain13 (m : Ma) (ba : Option Addr) (bc : Nat) (s0 : Option Addr) (s1 s2 : Nat) (ta : Option Addr) (tc : Nat) (n mm imm at' : Int) (w : World) (hn0 : 0 ≤ n) (hn1 : n ≤ 15) (hm0 : 0 ≤ mm) (hm1 : mm ≤ 15) (_hi0 : -10000 ≤ imm) (_hi1 : imm ≤ 10000) :
    Calls Tryd.prog 25 #[.agg (mC m ba bc (.slice s0 s1 s2) ta tc), .agg #[.int .i64 13, .int .i64 n, .int .i64 mm, .int .i64 imm], .int .i64 at'] w fun e w' => e = .returned (.tuple #[.agg (mC ({ m with t := decide (a32 m mm < a32 m n) }) ba bc (.slice s0 s1 s2) ta tc), .int .i64 0]) ∧ Below w.heap.size w w' := by
  obtain ⟨V, hV⟩ : ∃ V, V = ((w.alloc (.cells (mC m ba bc (.slice s0 s1 s2) ta tc) 29)).alloc (.cells #[.int .i64 13, .int .i64 n, .int .i64 mm, .int .i64 imm] 45)).alloc (.cells (mC zeroM none 0 (.slice none 0 0) none 0) 29) := ⟨_, rfl⟩
  obtain ⟨hB, k1, k2, k3⟩ := pl_start w m ba bc (.slice s0 s1 s2) ta tc 13 n mm imm V hV
  have HV : Hid (((w.alloc (.cells (mC m ba bc (.slice s0 s1 s2) ta tc) 29)).alloc (.cells #[.int .i64 13, .int .i64 n, .int .i64 mm, .int .i64 imm] 45)).alloc (.cells #[.int .i64 0, .int .i64 0, .int .i64 0, .int .i64 0, .int .i64 0, .int .i64 0, .int .i64 0, .int .i64 0, .int .i64 0, .int .i64 0, .int .i64 0, .int .i64 0, .int .i64 0, .int .i64 0, .int .i64 0, .int .i64 0, .bool false, .int .i64 0, .int .i64 0, .int .i64 0, .slice none 0 0, .slice none 0 0, .slice none 0 0, .int .i64 0] 29) = V) := hV.symm
  clear hV
  have HB := Lib.hid hB
  have c0 := cell_of_block (i := 0) k2 rfl
  have c1 := cell_of_block (i := 1) k2 rfl
  have c2 := cell_of_block (i := 2) k2 rfl
  have c3 := cell_of_block (i := 3) k2 rfl
  have cn := cell_of_block (i := n.toNat) k1 (mC_reg m ba bc (.slice s0 s1 s2) ta tc n.toNat (by omega))
  have cm := cell_of_block (i := mm.toNat) k1 (mC_reg m ba bc (.slice s0 s1 s2) ta tc mm.toNat (by omega))
  have hn2 : n < 16 := by omega
  have hm2 : mm < 16 := by omega
  have hA : wrap32 (m.r n.toNat) = a32 m n := rfl
  have hB2 : wrap32 (m.r mm.toNat) = a32 m mm := rfl
  obtain ⟨p0, p1⟩ := w32_bd (m.r n.toNat)
  obtain ⟨p2, p3⟩ := w32_bd (m.r mm.toNat)
  rw [hA] at p0 p1
  rw [hB2] at p2 p3
  have HK1 := Lib.hid k1
  have HK2 := Lib.hid k2
  have HK3 := Lib.hid k3
  clear hB k1 k2 k3
  have HQ : Hid (∀ nq, ∃ w1, w1 = V.drewN nq ∧ Below w.heap.size w w1 ∧ w1.heap = V.heap) := fun nq => ⟨_, rfl, HB.out.trans (Go.Joins.below_draws _ V nq), by simp⟩
  go_enter Tryd.func25, Tryd.ntmps25
  go_wp2_with fail
  rw [HV.out]
  go_quiet (fail)
  obtain ⟨w1, hw1, hb1, hh1⟩ := HQ.out nq
  rw [← hw1]
  have k1 := HK1.out
  have k2 := HK2.out
  have k3 := HK3.out
  rw [← hh1] at k1 k2 k3
  have HB1 := Lib.hid hb1
  have G1 := Lib.hid k1
  have G2 := Lib.hid k2
  have G3 := Lib.hid k3
  clear hw1 hb1 hh1 HQ HV HB HK1 HK2 HK3 c0 c1 c2 c3 cn cm
  have c0 := cell_of_block (i := 0) k2 rfl
  have c1 := cell_of_block (i := 1) k2 rfl
  have c2 := cell_of_block (i := 2) k2 rfl
  have c3 := cell_of_block (i := 3) k2 rfl
  clear k1 k2 k3
  have HP : Hid (PB w m ba bc (.slice s0 s1 s2) ta tc 13 n mm imm w1) := ⟨HB1.out, G1.out, G2.out, G3.out⟩
  clear HB1 G1 G2 G3
  obtain ⟨t0, t1⟩ := HP.out.tcell
  have HPF := Lib.hid (HP.out.tt (decide (a32 m mm < a32 m n)))
  go_wp2_with (first | (refine wpList_load_row rfl 29 _ rfl w.heap.size rfl 29 (mC ({ m with t := decide (a32 m mm < a32 m n) }) ba bc (.slice s0 s1 s2) ta tc) (0, 0) _ HPF.out.b1 Tryd.underlying29 rfl (mSize _ _ _ _ _ _) ?_) | (refine wpList_store_row rfl 29 _ _ rfl (w.heap.size + 1 + 1) (mC ({ m with t := decide (a32 m mm < a32 m n) }) ba bc (.slice s0 s1 s2) ta tc) rfl rfl 29 (mC zeroM none 0 (.slice none 0 0) none 0) HPF.out.b3 (mSize _ _ _ _ _ _) rfl (mAll _ _ _ _ _ _ _ _) ?_) | fail)
  exact bodyPost_ret (v := .tuple #[.agg (mC ({ m with t := decide (a32 m mm < a32 m n) }) ba bc (.slice s0 s1 s2) ta tc), .int .i64 0]) (res_m rfl rfl (setRow_heap _ _ _ _ _ _ HPF.out.b3)) rfl ⟨rfl, below_setRow HPF.out.bel (by omega) _⟩

set_option maxRecDepth 100000 in
set_option maxHeartbeats 4000000 in
theorem plain14 (m : Ma) (ba : Option Addr) (bc : Nat) (s0 : Option Addr) (s1 s2 : Nat) (ta : Option Addr) (tc : Nat) (n mm imm at' : Int) (w : World) (hn0 : 0 ≤ n) (hn1 : n ≤ 15) (hm0 : 0 ≤ mm) (hm1 : mm ≤ 15) (_hi0 : -10000 ≤ imm) (_hi1 : imm ≤ 10000) :
    Calls Tryd.prog 25 #[.agg (mC m ba bc (.slice s0 s1 s2) ta tc), .agg #[.int .i64 14, .int .i64 n, .int .i64 mm, .int .i64 imm], .int .i64 at'] w fun e w' => e = .returned (.tuple #[.agg (mC (setR { m with t := decide (a32 m n < 0) } n.toNat (wrap32 (2 * a32 m n))) ba bc (.slice s0 s1 s2) ta tc), .int .i64 0]) ∧ Below w.heap.size w w' := by
  obtain ⟨V, hV⟩ : ∃ V, V = ((w.alloc (.cells (mC m ba bc (.slice s0 s1 s2) ta tc) 29)).alloc (.cells #[.int .i64 14, .int .i64 n, .int .i64 mm, .int .i64 imm] 45)).alloc (.cells (mC zeroM none 0 (.slice none 0 0) none 0) 29) := ⟨_, rfl⟩
  obtain ⟨hB, k1, k2, k3⟩ := pl_start w m ba bc (.slice s0 s1 s2) ta tc 14 n mm imm V hV
  have HV : Hid (((w.alloc (.cells (mC m ba bc (.slice s0 s1 s2) ta tc) 29)).alloc (.cells #[.int .i64 14, .int .i64 n, .int .i64 mm, .int .i64 imm] 45)).alloc (.cells #[.int .i64 0, .int .i64 0, .int .i64 0, .int .i64 0, .int .i64 0, .int .i64 0, .int .i64 0, .int .i64 0, .int .i64 0, .int .i64 0, .int .i64 0, .int .i64 0, .int .i64 0, .int .i64 0, .int .i64 0, .int .i64 0, .bool false, .int .i64 0, .int .i64 0, .int .i64 0, .slice none 0 0, .slice none 0 0, .slice none 0 0, .int .i64 0] 29) = V) := hV.symm
  clear hV
  have HB := Lib.hid hB
  have c0 := cell_of_block (i := 0) k2 rfl
  have c1 := cell_of_block (i := 1) k2 rfl
  have c2 := cell_of_block (i := 2) k2 rfl
  have c3 := cell_of_block (i := 3) k2 rfl
  have cn := cell_of_block (i := n.toNat) k1 (mC_reg m ba bc (.slice s0 s1 s2) ta tc n.toNat (by omega))
  have cm := cell_of_block (i := mm.toNat) k1 (mC_reg m ba bc (.slice s0 s1 s2) ta tc mm.toNat (by omega))
  have hn2 : n < 16 := by omega
  have hm2 : mm < 16 := by omega
  have hA : wrap32 (m.r n.toNat) = a32 m n := rfl
  have hB2 : wrap32 (m.r mm.toNat) = a32 m mm := rfl
  obtain ⟨p0, p1⟩ := w32_bd (m.r n.toNat)
  obtain ⟨p2, p3⟩ := w32_bd (m.r mm.toNat)
  rw [hA] at p0 p1
  rw [hB2] at p2 p3
  have HK1 := Lib.hid k1
  have HK2 := Lib.hid k2
  have HK3 := Lib.hid k3
  clear hB k1 k2 k3
  have HQ : Hid (∀ nq, ∃ w1, w1 = V.drewN nq ∧ Below w.heap.size w w1 ∧ w1.heap = V.heap) := fun nq => ⟨_, rfl, HB.out.trans (Go.Joins.below_draws _ V nq), by simp⟩
  go_enter Tryd.func25, Tryd.ntmps25
  go_wp2_with fail
  rw [HV.out]
  go_quiet (fail)
  obtain ⟨w1, hw1, hb1, hh1⟩ := HQ.out nq
  rw [← hw1]
  have k1 := HK1.out
  have k2 := HK2.out
  have k3 := HK3.out
  rw [← hh1] at k1 k2 k3
  have HB1 := Lib.hid hb1
  have G1 := Lib.hid k1
  have G2 := Lib.hid k2
  have G3 := Lib.hid k3
  clear hw1 hb1 hh1 HQ HV HB HK1 HK2 HK3 c0 c1 c2 c3 cn cm
  have c0 := cell_of_block (i := 0) k2 rfl
  have c1 := cell_of_block (i := 1) k2 rfl
  have c2 := cell_of_block (i := 2) k2 rfl
  have c3 := cell_of_block (i := 3) k2 rfl
  clear k1 k2 k3
  have HP : Hid (PB w m ba bc (.slice s0 s1 s2) ta tc 14 n mm imm w1) := ⟨HB1.out, G1.out, G2.out, G3.out⟩
  clear HB1 G1 G2 G3
  have hnn : n.toNat < 16 := by omega
  have hq0 : -2147483648 ≤ (wrap32 (2 * a32 m n)) := by have := w32_bd (2 * a32 m n); omega
  have hq1 : (wrap32 (2 * a32 m n)) ≤ 2147483647 := by have := w32_bd (2 * a32 m n); omega
  obtain ⟨t0, t1⟩ := HP.out.tcell
  have HP2 := Lib.hid (HP.out.tt (decide (a32 m n < 0)))
  go_wp2_with (first | (go_at_call 38; refine (set_any _ ba bc (.slice s0 s1 s2) ta tc w.heap.size (w.heap.size + 1) 14 n mm imm ((wrap32 (2 * a32 m n))) _ HP2.out.b1 HP2.out.b2 hn0 hn1 hq0 hq1).mono ?_; rintro e W2 ⟨rfl, rfl⟩; have HPF := Lib.hid (HP2.out.set n.toNat hnn ((wrap32 (2 * a32 m n))))) | (refine wpList_load_row rfl 29 _ rfl w.heap.size rfl 29 (mC (setR { m with t := decide (a32 m n < 0) } n.toNat (wrap32 (2 * a32 m n))) ba bc (.slice s0 s1 s2) ta tc) (0, 0) _ HPF.out.b1 Tryd.underlying29 rfl (mSize _ _ _ _ _ _) ?_) | (refine wpList_store_row rfl 29 _ _ rfl (w.heap.size + 1 + 1) (mC (setR { m with t := decide (a32 m n < 0) } n.toNat (wrap32 (2 * a32 m n))) ba bc (.slice s0 s1 s2) ta tc) rfl rfl 29 (mC zeroM none 0 (.slice none 0 0) none 0) HPF.out.b3 (mSize _ _ _ _ _ _) rfl (mAll _ _ _ _ _ _ _ _) ?_) | fail)
  exact bodyPost_ret (v := .tuple #[.agg (mC (setR { m with t := decide (a32 m n < 0) } n.toNat (wrap32 (2 * a32 m n))) ba bc (.slice s0 s1 s2) ta tc), .int .i64 0]) (res_m rfl rfl (setRow_heap _ _ _ _ _ _ HPF.out.b3)) rfl ⟨rfl, below_setRow HPF.out.bel (by omega) _⟩

set_option maxRecDepth 100000 in
set_option maxHeartbeats 4000000 in
theorem plain15 (m : Ma) (ba : Option Addr) (bc : Nat) (s0 : Option Addr) (s1 s2 : Nat) (ta : Option Addr) (tc : Nat) (n mm imm at' : Int) (w : World) (hn0 : 0 ≤ n) (hn1 : n ≤ 15) (hm0 : 0 ≤ mm) (hm1 : mm ≤ 15) (_hi0 : -10000 ≤ imm) (_hi1 : imm ≤ 10000) :
    Calls Tryd.prog 25 #[.agg (mC m ba bc (.slice s0 s1 s2) ta tc), .agg #[.int .i64 15, .int .i64 n, .int .i64 mm, .int .i64 imm], .int .i64 at'] w fun e w' => e = .returned (.tuple #[.agg (mC (setR { m with t := ((a32 m n).tmod 2 != 0) } n.toNat (a32 m n % 4294967296 / 2)) ba bc (.slice s0 s1 s2) ta tc), .int .i64 0]) ∧ Below w.heap.size w w' := by
  obtain ⟨V, hV⟩ : ∃ V, V = ((w.alloc (.cells (mC m ba bc (.slice s0 s1 s2) ta tc) 29)).alloc (.cells #[.int .i64 15, .int .i64 n, .int .i64 mm, .int .i64 imm] 45)).alloc (.cells (mC zeroM none 0 (.slice none 0 0) none 0) 29) := ⟨_, rfl⟩
  obtain ⟨hB, k1, k2, k3⟩ := pl_start w m ba bc (.slice s0 s1 s2) ta tc 15 n mm imm V hV
  have HV : Hid (((w.alloc (.cells (mC m ba bc (.slice s0 s1 s2) ta tc) 29)).alloc (.cells #[.int .i64 15, .int .i64 n, .int .i64 mm, .int .i64 imm] 45)).alloc (.cells #[.int .i64 0, .int .i64 0, .int .i64 0, .int .i64 0, .int .i64 0, .int .i64 0, .int .i64 0, .int .i64 0, .int .i64 0, .int .i64 0, .int .i64 0, .int .i64 0, .int .i64 0, .int .i64 0, .int .i64 0, .int .i64 0, .bool false, .int .i64 0, .int .i64 0, .int .i64 0, .slice none 0 0, .slice none 0 0, .slice none 0 0, .int .i64 0] 29) = V) := hV.symm
  clear hV
  have HB := Lib.hid hB
  have c0 := cell_of_block (i := 0) k2 rfl
  have c1 := cell_of_block (i := 1) k2 rfl
  have c2 := cell_of_block (i := 2) k2 rfl
  have c3 := cell_of_block (i := 3) k2 rfl
  have cn := cell_of_block (i := n.toNat) k1 (mC_reg m ba bc (.slice s0 s1 s2) ta tc n.toNat (by omega))
  have cm := cell_of_block (i := mm.toNat) k1 (mC_reg m ba bc (.slice s0 s1 s2) ta tc mm.toNat (by omega))
  have hn2 : n < 16 := by omega
  have hm2 : mm < 16 := by omega
  have hA : wrap32 (m.r n.toNat) = a32 m n := rfl
  have hB2 : wrap32 (m.r mm.toNat) = a32 m mm := rfl
  obtain ⟨p0, p1⟩ := w32_bd (m.r n.toNat)
  obtain ⟨p2, p3⟩ := w32_bd (m.r mm.toNat)
  rw [hA] at p0 p1
  rw [hB2] at p2 p3
  have HK1 := Lib.hid k1
  have HK2 := Lib.hid k2
  have HK3 := Lib.hid k3
  clear hB k1 k2 k3
  have HQ : Hid (∀ nq, ∃ w1, w1 = V.drewN nq ∧ Below w.heap.size w w1 ∧ w1.heap = V.heap) := fun nq => ⟨_, rfl, HB.out.trans (Go.Joins.below_draws _ V nq), by simp⟩
  go_enter Tryd.func25, Tryd.ntmps25
  go_wp2_with fail
  rw [HV.out]
  go_quiet (fail)
  obtain ⟨w1, hw1, hb1, hh1⟩ := HQ.out nq
  rw [← hw1]
  have k1 := HK1.out
  have k2 := HK2.out
  have k3 := HK3.out
  rw [← hh1] at k1 k2 k3
  have HB1 := Lib.hid hb1
  have G1 := Lib.hid k1
  have G2 := Lib.hid k2
  have G3 := Lib.hid k3
  clear hw1 hb1 hh1 HQ HV HB HK1 HK2 HK3 c0 c1 c2 c3 cn cm
  have c0 := cell_of_block (i := 0) k2 rfl
  have c1 := cell_of_block (i := 1) k2 rfl
  have c2 := cell_of_block (i := 2) k2 rfl
  have c3 := cell_of_block (i := 3) k2 rfl
  clear k1 k2 k3
  have HP : Hid (PB w m ba bc (.slice s0 s1 s2) ta tc 15 n mm imm w1) := ⟨HB1.out, G1.out, G2.out, G3.out⟩
  clear HB1 G1 G2 G3
  have hnn : n.toNat < 16 := by omega
  have hq0 : -2147483648 ≤ (a32 m n % 4294967296 / 2) := by omega
  have hq1 : (a32 m n % 4294967296 / 2) ≤ 2147483647 := by omega
  obtain ⟨t0, t1⟩ := HP.out.tcell
  have HP2 := Lib.hid (HP.out.tt ((a32 m n).tmod 2 != 0))
  go_wp2_with (first | (go_at_call 38; refine (set_any _ ba bc (.slice s0 s1 s2) ta tc w.heap.size (w.heap.size + 1) 15 n mm imm ((a32 m n % 4294967296 / 2)) _ HP2.out.b1 HP2.out.b2 hn0 hn1 hq0 hq1).mono ?_; rintro e W2 ⟨rfl, rfl⟩; have HPF := Lib.hid (HP2.out.set n.toNat hnn ((a32 m n % 4294967296 / 2)))) | (refine wpList_load_row rfl 29 _ rfl w.heap.size rfl 29 (mC (setR { m with t := ((a32 m n).tmod 2 != 0) } n.toNat (a32 m n % 4294967296 / 2)) ba bc (.slice s0 s1 s2) ta tc) (0, 0) _ HPF.out.b1 Tryd.underlying29 rfl (mSize _ _ _ _ _ _) ?_) | (refine wpList_store_row rfl 29 _ _ rfl (w.heap.size + 1 + 1) (mC (setR { m with t := ((a32 m n).tmod 2 != 0) } n.toNat (a32 m n % 4294967296 / 2)) ba bc (.slice s0 s1 s2) ta tc) rfl rfl 29 (mC zeroM none 0 (.slice none 0 0) none 0) HPF.out.b3 (mSize _ _ _ _ _ _) rfl (mAll _ _ _ _ _ _ _ _) ?_) | fail)
  exact bodyPost_ret (v := .tuple #[.agg (mC (setR { m with t := ((a32 m n).tmod 2 != 0) } n.toNat (a32 m n % 4294967296 / 2)) ba bc (.slice s0 s1 s2) ta tc), .int .i64 0]) (res_m rfl rfl (setRow_heap _ _ _ _ _ _ HPF.out.b3)) rfl ⟨rfl, below_setRow HPF.out.bel (by omega) _⟩

set_option maxRecDepth 100000 in
set_option maxHeartbeats 4000000 in
theorem plain16 (m : Ma) (ba : Option Addr) (bc : Nat) (s0 : Option Addr) (s1 s2 : Nat) (ta : Option Addr) (tc : Nat) (n mm imm at' : Int) (w : World) (hn0 : 0 ≤ n) (hn1 : n ≤ 15) (hm0 : 0 ≤ mm) (hm1 : mm ≤ 15) (_hi0 : -10000 ≤ imm) (_hi1 : imm ≤ 10000) :
    Calls Tryd.prog 25 #[.agg (mC m ba bc (.slice s0 s1 s2) ta tc), .agg #[.int .i64 16, .int .i64 n, .int .i64 mm, .int .i64 imm], .int .i64 at'] w fun e w' => e = .returned (.tuple #[.agg (mC ({ setR m n.toNat (wrap32 (a32 m n - 1)) with t := (wrap32 (a32 m n - 1) == 0) }) ba bc (.slice s0 s1 s2) ta tc), .int .i64 0]) ∧ Below w.heap.size w w' := by
  obtain ⟨V, hV⟩ : ∃ V, V = ((w.alloc (.cells (mC m ba bc (.slice s0 s1 s2) ta tc) 29)).alloc (.cells #[.int .i64 16, .int .i64 n, .int .i64 mm, .int .i64 imm] 45)).alloc (.cells (mC zeroM none 0 (.slice none 0 0) none 0) 29) := ⟨_, rfl⟩
  obtain ⟨hB, k1, k2, k3⟩ := pl_start w m ba bc (.slice s0 s1 s2) ta tc 16 n mm imm V hV
  have HV : Hid (((w.alloc (.cells (mC m ba bc (.slice s0 s1 s2) ta tc) 29)).alloc (.cells #[.int .i64 16, .int .i64 n, .int .i64 mm, .int .i64 imm] 45)).alloc (.cells #[.int .i64 0, .int .i64 0, .int .i64 0, .int .i64 0, .int .i64 0, .int .i64 0, .int .i64 0, .int .i64 0, .int .i64 0, .int .i64 0, .int .i64 0, .int .i64 0, .int .i64 0, .int .i64 0, .int .i64 0, .int .i64 0, .bool false, .int .i64 0, .int .i64 0, .int .i64 0, .slice none 0 0, .slice none 0 0, .slice none 0 0, .int .i64 0] 29) = V) := hV.symm
  clear hV
  have HB := Lib.hid hB
  have c0 := cell_of_block (i := 0) k2 rfl
  have c1 := cell_of_block (i := 1) k2 rfl
  have c2 := cell_of_block (i := 2) k2 rfl
  have c3 := cell_of_block (i := 3) k2 rfl
  have cn := cell_of_block (i := n.toNat) k1 (mC_reg m ba bc (.slice s0 s1 s2) ta tc n.toNat (by omega))
  have cm := cell_of_block (i := mm.toNat) k1 (mC_reg m ba bc (.slice s0 s1 s2) ta tc mm.toNat (by omega))
  have hn2 : n < 16 := by omega
  have hm2 : mm < 16 := by omega
  have hA : wrap32 (m.r n.toNat) = a32 m n := rfl
  have hB2 : wrap32 (m.r mm.toNat) = a32 m mm := rfl
  obtain ⟨p0, p1⟩ := w32_bd (m.r n.toNat)
  obtain ⟨p2, p3⟩ := w32_bd (m.r mm.toNat)
  rw [hA] at p0 p1
  rw [hB2] at p2 p3
  have HK1 := Lib.hid k1
  have HK2 := Lib.hid k2
  have HK3 := Lib.hid k3
  clear hB k1 k2 k3
  have HQ : Hid (∀ nq, ∃ w1, w1 = V.drewN nq ∧ Below w.heap.size w w1 ∧ w1.heap = V.heap) := fun nq => ⟨_, rfl, HB.out.trans (Go.Joins.below_draws _ V nq), by simp⟩
  go_enter Tryd.func25, Tryd.ntmps25
  go_wp2_with fail
  rw [HV.out]
  go_quiet (fail)
  obtain ⟨w1, hw1, hb1, hh1⟩ := HQ.out nq
  rw [← hw1]
  have k1 := HK1.out
  have k2 := HK2.out
  have k3 := HK3.out
  rw [← hh1] at k1 k2 k3
  have HB1 := Lib.hid hb1
  have G1 := Lib.hid k1
  have G2 := Lib.hid k2
  have G3 := Lib.hid k3
  clear hw1 hb1 hh1 HQ HV HB HK1 HK2 HK3 c0 c1 c2 c3 cn cm
  have c0 := cell_of_block (i := 0) k2 rfl
  have c1 := cell_of_block (i := 1) k2 rfl
  have c2 := cell_of_block (i := 2) k2 rfl
  have c3 := cell_of_block (i := 3) k2 rfl
  clear k1 k2 k3
  have HP : Hid (PB w m ba bc (.slice s0 s1 s2) ta tc 16 n mm imm w1) := ⟨HB1.out, G1.out, G2.out, G3.out⟩
  clear HB1 G1 G2 G3
  have hnn : n.toNat < 16 := by omega
  have hq0 : -2147483648 ≤ (wrap32 (a32 m n - 1)) := by have := w32_bd (a32 m n - 1); omega
  have hq1 : (wrap32 (a32 m n - 1)) ≤ 2147483647 := by have := w32_bd (a32 m n - 1); omega
  have hn16 : ¬ n.toNat = 16 := by omega
  obtain ⟨t2, t3⟩ := HP.out.tcell
  go_wp2_with (first | (go_at_call 38; refine (set_any _ ba bc (.slice s0 s1 s2) ta tc w.heap.size (w.heap.size + 1) 16 n mm imm ((wrap32 (a32 m n - 1))) _ HP.out.b1 HP.out.b2 hn0 hn1 hq0 hq1).mono ?_; rintro e W2 ⟨rfl, rfl⟩; have HP2 := Lib.hid (HP.out.set n.toNat hnn ((wrap32 (a32 m n - 1)))); have HPF := Lib.hid (HP2.out.tt (wrap32 (a32 m n - 1) == 0)); obtain ⟨t0, t1⟩ := HP2.out.tcell) | (refine wpList_load_row rfl 29 _ rfl w.heap.size rfl 29 (mC ({ setR m n.toNat (wrap32 (a32 m n - 1)) with t := (wrap32 (a32 m n - 1) == 0) }) ba bc (.slice s0 s1 s2) ta tc) (0, 0) _ HPF.out.b1 Tryd.underlying29 rfl (mSize _ _ _ _ _ _) ?_) | (refine wpList_store_row rfl 29 _ _ rfl (w.heap.size + 1 + 1) (mC ({ setR m n.toNat (wrap32 (a32 m n - 1)) with t := (wrap32 (a32 m n - 1) == 0) }) ba bc (.slice s0 s1 s2) ta tc) rfl rfl 29 (mC zeroM none 0 (.slice none 0 0) none 0) HPF.out.b3 (mSize _ _ _ _ _ _) rfl (mAll _ _ _ _ _ _ _ _) ?_) | fail)
  exact bodyPost_ret (v := .tuple #[.agg (mC ({ setR m n.toNat (wrap32 (a32 m n - 1)) with t := (wrap32 (a32 m n - 1) == 0) }) ba bc (.slice s0 s1 s2) ta tc), .int .i64 0]) (res_m rfl rfl (setRow_heap _ _ _ _ _ _ HPF.out.b3)) rfl ⟨rfl, below_setRow HPF.out.bel (by omega) _⟩

end Go.Proofs.YtabepbaldadmgaaDoor
