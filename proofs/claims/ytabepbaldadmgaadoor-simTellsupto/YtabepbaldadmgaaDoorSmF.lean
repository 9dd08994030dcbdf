/- The document's own Plain: instructions that load. -/
import Derived.Test.YtabepbaldadmgaaDoorSmD
namespace Go.Proofs.YtabepbaldadmgaaDoor
open Go.RowKit Isa

theorem PB.next {w : World} {M : Ma} {ba : Option Addr} {bc : Nat} {sv : Value} {ta : Option Addr} {tc : Nat} {op n mm imm : Int} {W W' : World} (h : PB w M ba bc sv ta tc op n mm imm W) (hb : Below W.heap.size W W') : PB w M ba bc sv ta tc op n mm imm W' :=
  ⟨h.bel.trans (hb.mono h.bel.size), (hb.block _ (Array.getElem?_eq_some_iff.1 h.b1).1).trans h.b1, (hb.block _ (Array.getElem?_eq_some_iff.1 h.b2).1).trans h.b2, (hb.block _ (Array.getElem?_eq_some_iff.1 h.b3).1).trans h.b3⟩
/-- What is loaded. -/
def loadS (m : Ma) (a size : Int) : Int := if size = 2 then wrap32 (IntKind.i16.wrap (getTo (bsOf m.by') m.by'.length (a - m.base) 2)) else wrap32 (getTo (bsOf m.by') m.by'.length (a - m.base) 4)
theorem get2_bd (m : Ma) (a : Int) : 0 ≤ getTo (bsOf m.by') m.by'.length a 2 ∧ getTo (bsOf m.by') m.by'.length a 2 ≤ 65535 := by
  have := getTo_bd (bsOf_byte m.by') m.by'.length a 2
  omega
theorem get4_bd (m : Ma) (a : Int) : 0 ≤ getTo (bsOf m.by') m.by'.length a 4 ∧ getTo (bsOf m.by') m.by'.length a 4 ≤ 4294967295 := by
  have := getTo_bd (bsOf_byte m.by') m.by'.length a 4
  omega

theorem toI_bd2 (op imm at' : Int) (h0 : 0 ≤ at') (h1 : at' ≤ 1000000000000) (h2 : -10000 ≤ imm) (h3 : imm ≤ 10000) : -1000000 ≤ toI op imm at' ∧ toI op imm at' ≤ 1000001000000 := by
  unfold toI
  split
  · omega
  · split <;> omega

set_option maxRecDepth 100000 in
set_option maxHeartbeats 4000000 in
theorem plain23n (m : Ma) (ba : Option Addr) (bc : Nat) (s0 : Option Addr) (s1 s2 : Nat) (ta : Option Addr) (tc : Nat) (n mm imm at' : Int) (w : World) (hn0 : 0 ≤ n) (hn1 : n ≤ 15) (hm0 : 0 ≤ mm) (hm1 : mm ≤ 15) (hi0 : -10000 ≤ imm) (hi1 : imm ≤ 10000) (ha0 : 0 ≤ at') (ha1 : at' ≤ 1000000000000) (hR : BRd w ba m.by') (hb0 : 0 ≤ m.base) (hb1 : m.base ≤ 1048576) (hl : m.by'.length ≤ 140737488355328) (hh : hasB m (toI 23 imm at') 2 = false) :
    Calls Tryd.prog 25 #[.agg (mC m ba bc (.slice s0 s1 s2) ta tc), .agg #[.int .i64 23, .int .i64 n, .int .i64 mm, .int .i64 imm], .int .i64 at'] w fun e w' => e = .returned (.tuple #[.agg (mC (m) ba bc (.slice s0 s1 s2) ta tc), .int .i64 3]) ∧ Below w.heap.size w w' := by
  obtain ⟨V, hV⟩ : ∃ V, V = ((w.alloc (.cells (mC m ba bc (.slice s0 s1 s2) ta tc) 29)).alloc (.cells #[.int .i64 23, .int .i64 n, .int .i64 mm, .int .i64 imm] 45)).alloc (.cells (mC zeroM none 0 (.slice none 0 0) none 0) 29) := ⟨_, rfl⟩
  obtain ⟨hB, k1, k2, k3⟩ := pl_start w m ba bc (.slice s0 s1 s2) ta tc 23 n mm imm V hV
  have HV : Hid (((w.alloc (.cells (mC m ba bc (.slice s0 s1 s2) ta tc) 29)).alloc (.cells #[.int .i64 23, .int .i64 n, .int .i64 mm, .int .i64 imm] 45)).alloc (.cells #[.int .i64 0, .int .i64 0, .int .i64 0, .int .i64 0, .int .i64 0, .int .i64 0, .int .i64 0, .int .i64 0, .int .i64 0, .int .i64 0, .int .i64 0, .int .i64 0, .int .i64 0, .int .i64 0, .int .i64 0, .int .i64 0, .bool false, .int .i64 0, .int .i64 0, .int .i64 0, .slice none 0 0, .slice none 0 0, .slice none 0 0, .int .i64 0] 29) = V) := hV.symm
  clear hV
  have HB := Lib.hid hB
  have c0 := cell_of_block (i := 0) k2 rfl
  have c1 := cell_of_block (i := 1) k2 rfl
  have c2 := cell_of_block (i := 2) k2 rfl
  have c3 := cell_of_block (i := 3) k2 rfl
  have cn := cell_of_block (i := n.toNat) k1 (mC_reg m ba bc (.slice s0 s1 s2) ta tc n.toNat (by omega))
  have cm := cell_of_block (i := mm.toNat) k1 (mC_reg m ba bc (.slice s0 s1 s2) ta tc mm.toNat (by omega))
  have hn2 : n < 16 := by omega
  have hm2 : mm < 16 := by omega
  have hA : wrap32 (m.r n.toNat) = a32 m n := rfl
  have hB2 : wrap32 (m.r mm.toNat) = a32 m mm := rfl
  obtain ⟨p0, p1⟩ := w32_bd (m.r n.toNat)
  obtain ⟨p2, p3⟩ := w32_bd (m.r mm.toNat)
  rw [hA] at p0 p1
  rw [hB2] at p2 p3
  have HK1 := Lib.hid k1
  have HK2 := Lib.hid k2
  have HK3 := Lib.hid k3
  clear hB k1 k2 k3
  have HQ : Hid (∀ nq, ∃ w1, w1 = V.drewN nq ∧ Below w.heap.size w w1 ∧ w1.heap = V.heap) := fun nq => ⟨_, rfl, HB.out.trans (Go.Joins.below_draws _ V nq), by simp⟩
  go_enter Tryd.func25, Tryd.ntmps25
  go_wp2_with fail
  rw [HV.out]
  go_quiet (fail)
  obtain ⟨w1, hw1, hb1, hh1⟩ := HQ.out nq
  rw [← hw1]
  have k1 := HK1.out
  have k2 := HK2.out
  have k3 := HK3.out
  rw [← hh1] at k1 k2 k3
  have HB1 := Lib.hid hb1
  have G1 := Lib.hid k1
  have G2 := Lib.hid k2
  have G3 := Lib.hid k3
  clear hw1 hb1 hh1 HQ HV HB HK1 HK2 HK3 c0 c1 c2 c3 cn cm
  have c0 := cell_of_block (i := 0) k2 rfl
  have c1 := cell_of_block (i := 1) k2 rfl
  have c2 := cell_of_block (i := 2) k2 rfl
  have c3 := cell_of_block (i := 3) k2 rfl
  clear k1 k2 k3
  have HP : Hid (PB w m ba bc (.slice s0 s1 s2) ta tc 23 n mm imm w1) := ⟨HB1.out, G1.out, G2.out, G3.out⟩
  clear HB1 G1 G2 G3
  have HRD : Hid (∀ W, Below w.heap.size w W → BRd W ba m.by') := fun W hb => hR.next hb
  have htb := toI_bd2 23 imm at' ha0 ha1 hi0 hi1
  have HTO : Hid (∀ W, Calls Tryd.prog 26 #[.agg #[.int .i64 23, .int .i64 n, .int .i64 mm, .int .i64 imm], .int .i64 at'] W fun e w' => e = .returned (.tuple #[.int .i64 (toI 23 imm at'), .bool (toB 23)]) ∧ Below W.heap.size W w') := fun W => rto_any 23 n mm imm at' W ha0 ha1 hi0 hi1
  have HHA : Hid (∀ W, Calls Tryd.prog 37 #[.agg (mC m ba bc (.slice s0 s1 s2) ta tc), .int .i64 (toI 23 imm at'), .int .i64 2] W fun e w' => e = .returned (.bool false) ∧ Below W.heap.size W w') := fun W => by rw [← hh]; exact has_any m ba bc (.slice s0 s1 s2) ta tc _ 2 W (by simp) hb0 hb1 hl (by omega) (by omega)
  clear hR
  clear hh
  go_wp2_with (first | (go_at_call 26; refine (HTO.out _).mono ?_; rintro e W2 ⟨rfl, hb2⟩; have HP2 := Lib.hid (HP.out.next hb2); clear hb2; have d0 := cell_of_block (i := 0) HP2.out.b2 rfl) | (refine wpList_load_row rfl 29 _ rfl w.heap.size rfl 29 (mC m ba bc (.slice s0 s1 s2) ta tc) (0, 0) _ HP2.out.b1 Tryd.underlying29 rfl (mSize _ _ _ _ _ _) ?_) | (go_at_call 37; refine (HHA.out _).mono ?_; rintro e W3 ⟨rfl, hb3⟩; have HP3 := Lib.hid (HP2.out.next hb3); clear hb3; have e19 : W3.cell? ⟨w.heap.size, 19, none⟩ = some (.int .i64 m.base) := cell_of_block (i := 19) HP3.out.b1 rfl; have e20 : W3.cell? ⟨w.heap.size, 20, none⟩ = some (.slice ba m.by'.length bc) := cell_of_block (i := 20) HP3.out.b1 rfl) | (refine wpList_load_row rfl 29 _ rfl w.heap.size rfl 29 (mC m ba bc (.slice s0 s1 s2) ta tc) (0, 0) _ HP3.out.b1 Tryd.underlying29 rfl (mSize _ _ _ _ _ _) ?_) | (refine wpList_store_row rfl 29 _ _ rfl (w.heap.size + 1 + 1) (mC m ba bc (.slice s0 s1 s2) ta tc) rfl rfl 29 (mC zeroM none 0 (.slice none 0 0) none 0) HP3.out.b3 (mSize _ _ _ _ _ _) rfl (mAll _ _ _ _ _ _ _ _) ?_) | fail)
  exact bodyPost_ret (v := .tuple #[.agg (mC m ba bc (.slice s0 s1 s2) ta tc), .int .i64 3]) (res_m rfl rfl (setRow_heap _ _ _ _ _ _ HP3.out.b3)) rfl ⟨rfl, below_setRow HP3.out.bel (by omega) _⟩

set_option maxRecDepth 100000 in
set_option maxHeartbeats 4000000 in
theorem plain24n (m : Ma) (ba : Option Addr) (bc : Nat) (s0 : Option Addr) (s1 s2 : Nat) (ta : Option Addr) (tc : Nat) (n mm imm at' : Int) (w : World) (hn0 : 0 ≤ n) (hn1 : n ≤ 15) (hm0 : 0 ≤ mm) (hm1 : mm ≤ 15) (hi0 : -10000 ≤ imm) (hi1 : imm ≤ 10000) (ha0 : 0 ≤ at') (ha1 : at' ≤ 1000000000000) (hR : BRd w ba m.by') (hb0 : 0 ≤ m.base) (hb1 : m.base ≤ 1048576) (hl : m.by'.length ≤ 140737488355328) (hh : hasB m (toI 24 imm at') 4 = false) :
    Calls Tryd.prog 25 #[.agg (mC m ba bc (.slice s0 s1 s2) ta tc), .agg #[.int .i64 24, .int .i64 n, .int .i64 mm, .int .i64 imm], .int .i64 at'] w fun e w' => e = .returned (.tuple #[.agg (mC (m) ba bc (.slice s0 s1 s2) ta tc), .int .i64 3]) ∧ Below w.heap.size w w' := by
  obtain ⟨V, hV⟩ : ∃ V, V = ((w.alloc (.cells (mC m ba bc (.slice s0 s1 s2) ta tc) 29)).alloc (.cells #[.int .i64 24, .int .i64 n, .int .i64 mm, .int .i64 imm] 45)).alloc (.cells (mC zeroM none 0 (.slice none 0 0) none 0) 29) := ⟨_, rfl⟩
  obtain ⟨hB, k1, k2, k3⟩ := pl_start w m ba bc (.slice s0 s1 s2) ta tc 24 n mm imm V hV
  have HV : Hid (((w.alloc (.cells (mC m ba bc (.slice s0 s1 s2) ta tc) 29)).alloc (.cells #[.int .i64 24, .int .i64 n, .int .i64 mm, .int .i64 imm] 45)).alloc (.cells #[.int .i64 0, .int .i64 0, .int .i64 0, .int .i64 0, .int .i64 0, .int .i64 0, .int .i64 0, .int .i64 0, .int .i64 0, .int .i64 0, .int .i64 0, .int .i64 0, .int .i64 0, .int .i64 0, .int .i64 0, .int .i64 0, .bool false, .int .i64 0, .int .i64 0, .int .i64 0, .slice none 0 0, .slice none 0 0, .slice none 0 0, .int .i64 0] 29) = V) := hV.symm
  clear hV
  have HB := Lib.hid hB
  have c0 := cell_of_block (i := 0) k2 rfl
  have c1 := cell_of_block (i := 1) k2 rfl
  have c2 := cell_of_block (i := 2) k2 rfl
  have c3 := cell_of_block (i := 3) k2 rfl
  have cn := cell_of_block (i := n.toNat) k1 (mC_reg m ba bc (.slice s0 s1 s2) ta tc n.toNat (by omega))
  have cm := cell_of_block (i := mm.toNat) k1 (mC_reg m ba bc (.slice s0 s1 s2) ta tc mm.toNat (by omega))
  have hn2 : n < 16 := by omega
  have hm2 : mm < 16 := by omega
  have hA : wrap32 (m.r n.toNat) = a32 m n := rfl
  have hB2 : wrap32 (m.r mm.toNat) = a32 m mm := rfl
  obtain ⟨p0, p1⟩ := w32_bd (m.r n.toNat)
  obtain ⟨p2, p3⟩ := w32_bd (m.r mm.toNat)
  rw [hA] at p0 p1
  rw [hB2] at p2 p3
  have HK1 := Lib.hid k1
  have HK2 := Lib.hid k2
  have HK3 := Lib.hid k3
  clear hB k1 k2 k3
  have HQ : Hid (∀ nq, ∃ w1, w1 = V.drewN nq ∧ Below w.heap.size w w1 ∧ w1.heap = V.heap) := fun nq => ⟨_, rfl, HB.out.trans (Go.Joins.below_draws _ V nq), by simp⟩
  go_enter Tryd.func25, Tryd.ntmps25
  go_wp2_with fail
  rw [HV.out]
  go_quiet (fail)
  obtain ⟨w1, hw1, hb1, hh1⟩ := HQ.out nq
  rw [← hw1]
  have k1 := HK1.out
  have k2 := HK2.out
  have k3 := HK3.out
  rw [← hh1] at k1 k2 k3
  have HB1 := Lib.hid hb1
  have G1 := Lib.hid k1
  have G2 := Lib.hid k2
  have G3 := Lib.hid k3
  clear hw1 hb1 hh1 HQ HV HB HK1 HK2 HK3 c0 c1 c2 c3 cn cm
  have c0 := cell_of_block (i := 0) k2 rfl
  have c1 := cell_of_block (i := 1) k2 rfl
  have c2 := cell_of_block (i := 2) k2 rfl
  have c3 := cell_of_block (i := 3) k2 rfl
  clear k1 k2 k3
  have HP : Hid (PB w m ba bc (.slice s0 s1 s2) ta tc 24 n mm imm w1) := ⟨HB1.out, G1.out, G2.out, G3.out⟩
  clear HB1 G1 G2 G3
  have HRD : Hid (∀ W, Below w.heap.size w W → BRd W ba m.by') := fun W hb => hR.next hb
  have htb := toI_bd2 24 imm at' ha0 ha1 hi0 hi1
  have HTO : Hid (∀ W, Calls Tryd.prog 26 #[.agg #[.int .i64 24, .int .i64 n, .int .i64 mm, .int .i64 imm], .int .i64 at'] W fun e w' => e = .returned (.tuple #[.int .i64 (toI 24 imm at'), .bool (toB 24)]) ∧ Below W.heap.size W w') := fun W => rto_any 24 n mm imm at' W ha0 ha1 hi0 hi1
  have HHA : Hid (∀ W, Calls Tryd.prog 37 #[.agg (mC m ba bc (.slice s0 s1 s2) ta tc), .int .i64 (toI 24 imm at'), .int .i64 4] W fun e w' => e = .returned (.bool false) ∧ Below W.heap.size W w') := fun W => by rw [← hh]; exact has_any m ba bc (.slice s0 s1 s2) ta tc _ 4 W (by simp) hb0 hb1 hl (by omega) (by omega)
  clear hR
  clear hh
  go_wp2_with (first | (go_at_call 26; refine (HTO.out _).mono ?_; rintro e W2 ⟨rfl, hb2⟩; have HP2 := Lib.hid (HP.out.next hb2); clear hb2; have d0 := cell_of_block (i := 0) HP2.out.b2 rfl) | (refine wpList_load_row rfl 29 _ rfl w.heap.size rfl 29 (mC m ba bc (.slice s0 s1 s2) ta tc) (0, 0) _ HP2.out.b1 Tryd.underlying29 rfl (mSize _ _ _ _ _ _) ?_) | (go_at_call 37; refine (HHA.out _).mono ?_; rintro e W3 ⟨rfl, hb3⟩; have HP3 := Lib.hid (HP2.out.next hb3); clear hb3; have e19 : W3.cell? ⟨w.heap.size, 19, none⟩ = some (.int .i64 m.base) := cell_of_block (i := 19) HP3.out.b1 rfl; have e20 : W3.cell? ⟨w.heap.size, 20, none⟩ = some (.slice ba m.by'.length bc) := cell_of_block (i := 20) HP3.out.b1 rfl) | (refine wpList_load_row rfl 29 _ rfl w.heap.size rfl 29 (mC m ba bc (.slice s0 s1 s2) ta tc) (0, 0) _ HP3.out.b1 Tryd.underlying29 rfl (mSize _ _ _ _ _ _) ?_) | (refine wpList_store_row rfl 29 _ _ rfl (w.heap.size + 1 + 1) (mC m ba bc (.slice s0 s1 s2) ta tc) rfl rfl 29 (mC zeroM none 0 (.slice none 0 0) none 0) HP3.out.b3 (mSize _ _ _ _ _ _) rfl (mAll _ _ _ _ _ _ _ _) ?_) | fail)
  exact bodyPost_ret (v := .tuple #[.agg (mC m ba bc (.slice s0 s1 s2) ta tc), .int .i64 3]) (res_m rfl rfl (setRow_heap _ _ _ _ _ _ HP3.out.b3)) rfl ⟨rfl, below_setRow HP3.out.bel (by omega) _⟩

set_option maxRecDepth 100000 in
set_option maxHeartbeats 4000000 in
theorem plain26n (m : Ma) (ba : Option Addr) (bc : Nat) (s0 : Option Addr) (s1 s2 : Nat) (ta : Option Addr) (tc : Nat) (n mm imm at' : Int) (w : World) (hn0 : 0 ≤ n) (hn1 : n ≤ 15) (hm0 : 0 ≤ mm) (hm1 : mm ≤ 15) (_hi0 : -10000 ≤ imm) (_hi1 : imm ≤ 10000) (_ha0 : 0 ≤ at') (_ha1 : at' ≤ 1000000000000) (hR : BRd w ba m.by') (hb0 : 0 ≤ m.base) (hb1 : m.base ≤ 1048576) (hl : m.by'.length ≤ 140737488355328) (hh : hasB m (a32 m mm) 4 = false) :
    Calls Tryd.prog 25 #[.agg (mC m ba bc (.slice s0 s1 s2) ta tc), .agg #[.int .i64 26, .int .i64 n, .int .i64 mm, .int .i64 imm], .int .i64 at'] w fun e w' => e = .returned (.tuple #[.agg (mC (m) ba bc (.slice s0 s1 s2) ta tc), .int .i64 3]) ∧ Below w.heap.size w w' := by
  obtain ⟨V, hV⟩ : ∃ V, V = ((w.alloc (.cells (mC m ba bc (.slice s0 s1 s2) ta tc) 29)).alloc (.cells #[.int .i64 26, .int .i64 n, .int .i64 mm, .int .i64 imm] 45)).alloc (.cells (mC zeroM none 0 (.slice none 0 0) none 0) 29) := ⟨_, rfl⟩
  obtain ⟨hB, k1, k2, k3⟩ := pl_start w m ba bc (.slice s0 s1 s2) ta tc 26 n mm imm V hV
  have HV : Hid (((w.alloc (.cells (mC m ba bc (.slice s0 s1 s2) ta tc) 29)).alloc (.cells #[.int .i64 26, .int .i64 n, .int .i64 mm, .int .i64 imm] 45)).alloc (.cells #[.int .i64 0, .int .i64 0, .int .i64 0, .int .i64 0, .int .i64 0, .int .i64 0, .int .i64 0, .int .i64 0, .int .i64 0, .int .i64 0, .int .i64 0, .int .i64 0, .int .i64 0, .int .i64 0, .int .i64 0, .int .i64 0, .bool false, .int .i64 0, .int .i64 0, .int .i64 0, .slice none 0 0, .slice none 0 0, .slice none 0 0, .int .i64 0] 29) = V) := hV.symm
  clear hV
  have HB := Lib.hid hB
  have c0 := cell_of_block (i := 0) k2 rfl
  have c1 := cell_of_block (i := 1) k2 rfl
  have c2 := cell_of_block (i := 2) k2 rfl
  have c3 := cell_of_block (i := 3) k2 rfl
  have cn := cell_of_block (i := n.toNat) k1 (mC_reg m ba bc (.slice s0 s1 s2) ta tc n.toNat (by omega))
  have cm := cell_of_block (i := mm.toNat) k1 (mC_reg m ba bc (.slice s0 s1 s2) ta tc mm.toNat (by omega))
  have hn2 : n < 16 := by omega
  have hm2 : mm < 16 := by omega
  have hA : wrap32 (m.r n.toNat) = a32 m n := rfl
  have hB2 : wrap32 (m.r mm.toNat) = a32 m mm := rfl
  obtain ⟨p0, p1⟩ := w32_bd (m.r n.toNat)
  obtain ⟨p2, p3⟩ := w32_bd (m.r mm.toNat)
  rw [hA] at p0 p1
  rw [hB2] at p2 p3
  have HK1 := Lib.hid k1
  have HK2 := Lib.hid k2
  have HK3 := Lib.hid k3
  clear hB k1 k2 k3
  have HQ : Hid (∀ nq, ∃ w1, w1 = V.drewN nq ∧ Below w.heap.size w w1 ∧ w1.heap = V.heap) := fun nq => ⟨_, rfl, HB.out.trans (Go.Joins.below_draws _ V nq), by simp⟩
  go_enter Tryd.func25, Tryd.ntmps25
  go_wp2_with fail
  rw [HV.out]
  go_quiet (fail)
  obtain ⟨w1, hw1, hb1, hh1⟩ := HQ.out nq
  rw [← hw1]
  have k1 := HK1.out
  have k2 := HK2.out
  have k3 := HK3.out
  rw [← hh1] at k1 k2 k3
  have HB1 := Lib.hid hb1
  have G1 := Lib.hid k1
  have G2 := Lib.hid k2
  have G3 := Lib.hid k3
  clear hw1 hb1 hh1 HQ HV HB HK1 HK2 HK3 c0 c1 c2 c3 cn cm
  have c0 := cell_of_block (i := 0) k2 rfl
  have c1 := cell_of_block (i := 1) k2 rfl
  have c2 := cell_of_block (i := 2) k2 rfl
  have c3 := cell_of_block (i := 3) k2 rfl
  clear k1 k2 k3
  have HP : Hid (PB w m ba bc (.slice s0 s1 s2) ta tc 26 n mm imm w1) := ⟨HB1.out, G1.out, G2.out, G3.out⟩
  clear HB1 G1 G2 G3
  have HRD : Hid (∀ W, Below w.heap.size w W → BRd W ba m.by') := fun W hb => hR.next hb
  have HHA : Hid (∀ W, Calls Tryd.prog 37 #[.agg (mC m ba bc (.slice s0 s1 s2) ta tc), .int .i64 (a32 m mm), .int .i64 4] W fun e w' => e = .returned (.bool false) ∧ Below W.heap.size W w') := fun W => by rw [← hh]; exact has_any m ba bc (.slice s0 s1 s2) ta tc _ 4 W (by simp) hb0 hb1 hl (by omega) (by omega)
  clear hR
  clear hh
  go_wp2_with (first | (refine wpList_load_row rfl 29 _ rfl w.heap.size rfl 29 (mC m ba bc (.slice s0 s1 s2) ta tc) (0, 0) _ HP.out.b1 Tryd.underlying29 rfl (mSize _ _ _ _ _ _) ?_) | (go_at_call 37; refine (HHA.out _).mono ?_; rintro e W3 ⟨rfl, hb3⟩; have HP3 := Lib.hid (HP.out.next hb3); clear hb3; have e19 : W3.cell? ⟨w.heap.size, 19, none⟩ = some (.int .i64 m.base) := cell_of_block (i := 19) HP3.out.b1 rfl; have e20 : W3.cell? ⟨w.heap.size, 20, none⟩ = some (.slice ba m.by'.length bc) := cell_of_block (i := 20) HP3.out.b1 rfl) | (refine wpList_load_row rfl 29 _ rfl w.heap.size rfl 29 (mC m ba bc (.slice s0 s1 s2) ta tc) (0, 0) _ HP3.out.b1 Tryd.underlying29 rfl (mSize _ _ _ _ _ _) ?_) | (refine wpList_store_row rfl 29 _ _ rfl (w.heap.size + 1 + 1) (mC m ba bc (.slice s0 s1 s2) ta tc) rfl rfl 29 (mC zeroM none 0 (.slice none 0 0) none 0) HP3.out.b3 (mSize _ _ _ _ _ _) rfl (mAll _ _ _ _ _ _ _ _) ?_) | fail)
  exact bodyPost_ret (v := .tuple #[.agg (mC m ba bc (.slice s0 s1 s2) ta tc), .int .i64 3]) (res_m rfl rfl (setRow_heap _ _ _ _ _ _ HP3.out.b3)) rfl ⟨rfl, below_setRow HP3.out.bel (by omega) _⟩

set_option maxRecDepth 100000 in
set_option maxHeartbeats 4000000 in
theorem plain23y (m : Ma) (ba : Option Addr) (bc : Nat) (s0 : Option Addr) (s1 s2 : Nat) (ta : Option Addr) (tc : Nat) (n mm imm at' : Int) (w : World) (hn0 : 0 ≤ n) (hn1 : n ≤ 15) (hm0 : 0 ≤ mm) (hm1 : mm ≤ 15) (hi0 : -10000 ≤ imm) (hi1 : imm ≤ 10000) (ha0 : 0 ≤ at') (ha1 : at' ≤ 1000000000000) (hR : BRd w ba m.by') (hb0 : 0 ≤ m.base) (hb1 : m.base ≤ 1048576) (hl : m.by'.length ≤ 140737488355328) (hh : hasB m (toI 23 imm at') 2 = true) :
    Calls Tryd.prog 25 #[.agg (mC m ba bc (.slice s0 s1 s2) ta tc), .agg #[.int .i64 23, .int .i64 n, .int .i64 mm, .int .i64 imm], .int .i64 at'] w fun e w' => e = .returned (.tuple #[.agg (mC (setR m n.toNat (loadS m (toI 23 imm at') 2)) ba bc (.slice s0 s1 s2) ta tc), .int .i64 0]) ∧ Below w.heap.size w w' := by
  obtain ⟨V, hV⟩ : ∃ V, V = ((w.alloc (.cells (mC m ba bc (.slice s0 s1 s2) ta tc) 29)).alloc (.cells #[.int .i64 23, .int .i64 n, .int .i64 mm, .int .i64 imm] 45)).alloc (.cells (mC zeroM none 0 (.slice none 0 0) none 0) 29) := ⟨_, rfl⟩
  obtain ⟨hB, k1, k2, k3⟩ := pl_start w m ba bc (.slice s0 s1 s2) ta tc 23 n mm imm V hV
  have HV : Hid (((w.alloc (.cells (mC m ba bc (.slice s0 s1 s2) ta tc) 29)).alloc (.cells #[.int .i64 23, .int .i64 n, .int .i64 mm, .int .i64 imm] 45)).alloc (.cells #[.int .i64 0, .int .i64 0, .int .i64 0, .int .i64 0, .int .i64 0, .int .i64 0, .int .i64 0, .int .i64 0, .int .i64 0, .int .i64 0, .int .i64 0, .int .i64 0, .int .i64 0, .int .i64 0, .int .i64 0, .int .i64 0, .bool false, .int .i64 0, .int .i64 0, .int .i64 0, .slice none 0 0, .slice none 0 0, .slice none 0 0, .int .i64 0] 29) = V) := hV.symm
  clear hV
  have HB := Lib.hid hB
  have c0 := cell_of_block (i := 0) k2 rfl
  have c1 := cell_of_block (i := 1) k2 rfl
  have c2 := cell_of_block (i := 2) k2 rfl
  have c3 := cell_of_block (i := 3) k2 rfl
  have cn := cell_of_block (i := n.toNat) k1 (mC_reg m ba bc (.slice s0 s1 s2) ta tc n.toNat (by omega))
  have cm := cell_of_block (i := mm.toNat) k1 (mC_reg m ba bc (.slice s0 s1 s2) ta tc mm.toNat (by omega))
  have hn2 : n < 16 := by omega
  have hm2 : mm < 16 := by omega
  have hA : wrap32 (m.r n.toNat) = a32 m n := rfl
  have hB2 : wrap32 (m.r mm.toNat) = a32 m mm := rfl
  obtain ⟨p0, p1⟩ := w32_bd (m.r n.toNat)
  obtain ⟨p2, p3⟩ := w32_bd (m.r mm.toNat)
  rw [hA] at p0 p1
  rw [hB2] at p2 p3
  have HK1 := Lib.hid k1
  have HK2 := Lib.hid k2
  have HK3 := Lib.hid k3
  clear hB k1 k2 k3
  have HQ : Hid (∀ nq, ∃ w1, w1 = V.drewN nq ∧ Below w.heap.size w w1 ∧ w1.heap = V.heap) := fun nq => ⟨_, rfl, HB.out.trans (Go.Joins.below_draws _ V nq), by simp⟩
  go_enter Tryd.func25, Tryd.ntmps25
  go_wp2_with fail
  rw [HV.out]
  go_quiet (fail)
  obtain ⟨w1, hw1, hb1, hh1⟩ := HQ.out nq
  rw [← hw1]
  have k1 := HK1.out
  have k2 := HK2.out
  have k3 := HK3.out
  rw [← hh1] at k1 k2 k3
  have HB1 := Lib.hid hb1
  have G1 := Lib.hid k1
  have G2 := Lib.hid k2
  have G3 := Lib.hid k3
  clear hw1 hb1 hh1 HQ HV HB HK1 HK2 HK3 c0 c1 c2 c3 cn cm
  have c0 := cell_of_block (i := 0) k2 rfl
  have c1 := cell_of_block (i := 1) k2 rfl
  have c2 := cell_of_block (i := 2) k2 rfl
  have c3 := cell_of_block (i := 3) k2 rfl
  clear k1 k2 k3
  have HP : Hid (PB w m ba bc (.slice s0 s1 s2) ta tc 23 n mm imm w1) := ⟨HB1.out, G1.out, G2.out, G3.out⟩
  clear HB1 G1 G2 G3
  have HRD : Hid (∀ W, Below w.heap.size w W → BRd W ba m.by') := fun W hb => hR.next hb
  have htb := toI_bd2 23 imm at' ha0 ha1 hi0 hi1
  have HTO : Hid (∀ W, Calls Tryd.prog 26 #[.agg #[.int .i64 23, .int .i64 n, .int .i64 mm, .int .i64 imm], .int .i64 at'] W fun e w' => e = .returned (.tuple #[.int .i64 (toI 23 imm at'), .bool (toB 23)]) ∧ Below W.heap.size W w') := fun W => rto_any 23 n mm imm at' W ha0 ha1 hi0 hi1
  have HHA : Hid (∀ W, Calls Tryd.prog 37 #[.agg (mC m ba bc (.slice s0 s1 s2) ta tc), .int .i64 (toI 23 imm at'), .int .i64 2] W fun e w' => e = .returned (.bool true) ∧ Below W.heap.size W w') := fun W => by rw [← hh]; exact has_any m ba bc (.slice s0 s1 s2) ta tc _ 2 W (by simp) hb0 hb1 hl (by omega) (by omega)
  obtain ⟨q1, q2, q3⟩ := hasB_in hh
  have hnn : n.toNat < 16 := by omega
  have HGE : Hid (∀ W, Below w.heap.size w W → Calls Tryd.prog 19 #[.slice ba m.by'.length bc, .int .i64 ((toI 23 imm at') - m.base), .int .i64 2] W fun e w' => e = .returned (.int .i64 (getTo (bsOf m.by') m.by'.length ((toI 23 imm at') - m.base) 2)) ∧ w' = W) := fun W hb => rget m ba bc _ 2 W (HRD.out W hb) hl (by omega) (by omega) (by omega) (by omega)
  have hgb := get2_bd m ((toI 23 imm at') - m.base)
  have hls : wrap32 (IntKind.i16.wrap (getTo (bsOf m.by') m.by'.length ((toI 23 imm at') - m.base) 2)) = loadS m (toI 23 imm at') 2 := rfl
  have hq0 : -2147483648 ≤ loadS m (toI 23 imm at') 2 := by rw [← hls]; exact (w32_bd _).1
  have hq1 : loadS m (toI 23 imm at') 2 ≤ 2147483647 := by rw [← hls]; exact (w32_bd _).2
  clear hR
  clear hh
  obtain ⟨ls, hls0⟩ : ∃ x, x = loadS m (toI 23 imm at') 2 := ⟨_, rfl⟩
  have HE := Lib.hid hls0
  rw [← hls0] at hls hq0 hq1
  clear hls0
  generalize getTo (bsOf m.by') m.by'.length ((toI 23 imm at') - m.base) 2 = gv at hls HGE hgb
  obtain ⟨g0, g1⟩ := hgb
  go_wp2_with (first | (go_at_call 26; refine (HTO.out _).mono ?_; rintro e W2 ⟨rfl, hb2⟩; have HP2 := Lib.hid (HP.out.next hb2); clear hb2; have d0 := cell_of_block (i := 0) HP2.out.b2 rfl) | (refine wpList_load_row rfl 29 _ rfl w.heap.size rfl 29 (mC m ba bc (.slice s0 s1 s2) ta tc) (0, 0) _ HP2.out.b1 Tryd.underlying29 rfl (mSize _ _ _ _ _ _) ?_) | (go_at_call 37; refine (HHA.out _).mono ?_; rintro e W3 ⟨rfl, hb3⟩; have HP3 := Lib.hid (HP2.out.next hb3); clear hb3; have e19 : W3.cell? ⟨w.heap.size, 19, none⟩ = some (.int .i64 m.base) := cell_of_block (i := 19) HP3.out.b1 rfl; have e20 : W3.cell? ⟨w.heap.size, 20, none⟩ = some (.slice ba m.by'.length bc) := cell_of_block (i := 20) HP3.out.b1 rfl) | (go_at_call 19; refine (HGE.out _ HP3.out.bel).mono ?_; rintro e w' ⟨rfl, rfl⟩) | (go_at_call 38; refine (set_any _ ba bc (.slice s0 s1 s2) ta tc w.heap.size (w.heap.size + 1) 23 n mm imm ls _ HP3.out.b1 HP3.out.b2 hn0 hn1 hq0 hq1).mono ?_; rintro e W2 ⟨rfl, rfl⟩; have HPF := Lib.hid (HP3.out.set n.toNat hnn ls)) | (refine wpList_load_row rfl 29 _ rfl w.heap.size rfl 29 (mC (setR m n.toNat ls) ba bc (.slice s0 s1 s2) ta tc) (0, 0) _ HPF.out.b1 Tryd.underlying29 rfl (mSize _ _ _ _ _ _) ?_) | (refine wpList_store_row rfl 29 _ _ rfl (w.heap.size + 1 + 1) (mC (setR m n.toNat ls) ba bc (.slice s0 s1 s2) ta tc) rfl rfl 29 (mC zeroM none 0 (.slice none 0 0) none 0) HPF.out.b3 (mSize _ _ _ _ _ _) rfl (mAll _ _ _ _ _ _ _ _) ?_) | fail)
  exact bodyPost_ret (v := .tuple #[.agg (mC (setR m n.toNat ls) ba bc (.slice s0 s1 s2) ta tc), .int .i64 0]) (res_m rfl rfl (setRow_heap _ _ _ _ _ _ HPF.out.b3)) rfl ⟨by rw [HE.out], below_setRow HPF.out.bel (by omega) _⟩

set_option maxRecDepth 100000 in
set_option maxHeartbeats 4000000 in
theorem plain24y (m : Ma) (ba : Option Addr) (bc : Nat) (s0 : Option Addr) (s1 s2 : Nat) (ta : Option Addr) (tc : Nat) (n mm imm at' : Int) (w : World) (hn0 : 0 ≤ n) (hn1 : n ≤ 15) (hm0 : 0 ≤ mm) (hm1 : mm ≤ 15) (hi0 : -10000 ≤ imm) (hi1 : imm ≤ 10000) (ha0 : 0 ≤ at') (ha1 : at' ≤ 1000000000000) (hR : BRd w ba m.by') (hb0 : 0 ≤ m.base) (hb1 : m.base ≤ 1048576) (hl : m.by'.length ≤ 140737488355328) (hh : hasB m (toI 24 imm at') 4 = true) :
    Calls Tryd.prog 25 #[.agg (mC m ba bc (.slice s0 s1 s2) ta tc), .agg #[.int .i64 24, .int .i64 n, .int .i64 mm, .int .i64 imm], .int .i64 at'] w fun e w' => e = .returned (.tuple #[.agg (mC (setR m n.toNat (loadS m (toI 24 imm at') 4)) ba bc (.slice s0 s1 s2) ta tc), .int .i64 0]) ∧ Below w.heap.size w w' := by
  obtain ⟨V, hV⟩ : ∃ V, V = ((w.alloc (.cells (mC m ba bc (.slice s0 s1 s2) ta tc) 29)).alloc (.cells #[.int .i64 24, .int .i64 n, .int .i64 mm, .int .i64 imm] 45)).alloc (.cells (mC zeroM none 0 (.slice none 0 0) none 0) 29) := ⟨_, rfl⟩
  obtain ⟨hB, k1, k2, k3⟩ := pl_start w m ba bc (.slice s0 s1 s2) ta tc 24 n mm imm V hV
  have HV : Hid (((w.alloc (.cells (mC m ba bc (.slice s0 s1 s2) ta tc) 29)).alloc (.cells #[.int .i64 24, .int .i64 n, .int .i64 mm, .int .i64 imm] 45)).alloc (.cells #[.int .i64 0, .int .i64 0, .int .i64 0, .int .i64 0, .int .i64 0, .int .i64 0, .int .i64 0, .int .i64 0, .int .i64 0, .int .i64 0, .int .i64 0, .int .i64 0, .int .i64 0, .int .i64 0, .int .i64 0, .int .i64 0, .bool false, .int .i64 0, .int .i64 0, .int .i64 0, .slice none 0 0, .slice none 0 0, .slice none 0 0, .int .i64 0] 29) = V) := hV.symm
  clear hV
  have HB := Lib.hid hB
  have c0 := cell_of_block (i := 0) k2 rfl
  have c1 := cell_of_block (i := 1) k2 rfl
  have c2 := cell_of_block (i := 2) k2 rfl
  have c3 := cell_of_block (i := 3) k2 rfl
  have cn := cell_of_block (i := n.toNat) k1 (mC_reg m ba bc (.slice s0 s1 s2) ta tc n.toNat (by omega))
  have cm := cell_of_block (i := mm.toNat) k1 (mC_reg m ba bc (.slice s0 s1 s2) ta tc mm.toNat (by omega))
  have hn2 : n < 16 := by omega
  have hm2 : mm < 16 := by omega
  have hA : wrap32 (m.r n.toNat) = a32 m n := rfl
  have hB2 : wrap32 (m.r mm.toNat) = a32 m mm := rfl
  obtain ⟨p0, p1⟩ := w32_bd (m.r n.toNat)
  obtain ⟨p2, p3⟩ := w32_bd (m.r mm.toNat)
  rw [hA] at p0 p1
  rw [hB2] at p2 p3
  have HK1 := Lib.hid k1
  have HK2 := Lib.hid k2
  have HK3 := Lib.hid k3
  clear hB k1 k2 k3
  have HQ : Hid (∀ nq, ∃ w1, w1 = V.drewN nq ∧ Below w.heap.size w w1 ∧ w1.heap = V.heap) := fun nq => ⟨_, rfl, HB.out.trans (Go.Joins.below_draws _ V nq), by simp⟩
  go_enter Tryd.func25, Tryd.ntmps25
  go_wp2_with fail
  rw [HV.out]
  go_quiet (fail)
  obtain ⟨w1, hw1, hb1, hh1⟩ := HQ.out nq
  rw [← hw1]
  have k1 := HK1.out
  have k2 := HK2.out
  have k3 := HK3.out
  rw [← hh1] at k1 k2 k3
  have HB1 := Lib.hid hb1
  have G1 := Lib.hid k1
  have G2 := Lib.hid k2
  have G3 := Lib.hid k3
  clear hw1 hb1 hh1 HQ HV HB HK1 HK2 HK3 c0 c1 c2 c3 cn cm
  have c0 := cell_of_block (i := 0) k2 rfl
  have c1 := cell_of_block (i := 1) k2 rfl
  have c2 := cell_of_block (i := 2) k2 rfl
  have c3 := cell_of_block (i := 3) k2 rfl
  clear k1 k2 k3
  have HP : Hid (PB w m ba bc (.slice s0 s1 s2) ta tc 24 n mm imm w1) := ⟨HB1.out, G1.out, G2.out, G3.out⟩
  clear HB1 G1 G2 G3
  have HRD : Hid (∀ W, Below w.heap.size w W → BRd W ba m.by') := fun W hb => hR.next hb
  have htb := toI_bd2 24 imm at' ha0 ha1 hi0 hi1
  have HTO : Hid (∀ W, Calls Tryd.prog 26 #[.agg #[.int .i64 24, .int .i64 n, .int .i64 mm, .int .i64 imm], .int .i64 at'] W fun e w' => e = .returned (.tuple #[.int .i64 (toI 24 imm at'), .bool (toB 24)]) ∧ Below W.heap.size W w') := fun W => rto_any 24 n mm imm at' W ha0 ha1 hi0 hi1
  have HHA : Hid (∀ W, Calls Tryd.prog 37 #[.agg (mC m ba bc (.slice s0 s1 s2) ta tc), .int .i64 (toI 24 imm at'), .int .i64 4] W fun e w' => e = .returned (.bool true) ∧ Below W.heap.size W w') := fun W => by rw [← hh]; exact has_any m ba bc (.slice s0 s1 s2) ta tc _ 4 W (by simp) hb0 hb1 hl (by omega) (by omega)
  obtain ⟨q1, q2, q3⟩ := hasB_in hh
  have hnn : n.toNat < 16 := by omega
  have HGE : Hid (∀ W, Below w.heap.size w W → Calls Tryd.prog 19 #[.slice ba m.by'.length bc, .int .i64 ((toI 24 imm at') - m.base), .int .i64 4] W fun e w' => e = .returned (.int .i64 (getTo (bsOf m.by') m.by'.length ((toI 24 imm at') - m.base) 4)) ∧ w' = W) := fun W hb => rget m ba bc _ 4 W (HRD.out W hb) hl (by omega) (by omega) (by omega) (by omega)
  have hgb := get4_bd m ((toI 24 imm at') - m.base)
  have hls : wrap32 (getTo (bsOf m.by') m.by'.length ((toI 24 imm at') - m.base) 4) = loadS m (toI 24 imm at') 4 := rfl
  have hq0 : -2147483648 ≤ loadS m (toI 24 imm at') 4 := by rw [← hls]; exact (w32_bd _).1
  have hq1 : loadS m (toI 24 imm at') 4 ≤ 2147483647 := by rw [← hls]; exact (w32_bd _).2
  clear hR
  clear hh
  obtain ⟨ls, hls0⟩ : ∃ x, x = loadS m (toI 24 imm at') 4 := ⟨_, rfl⟩
  have HE := Lib.hid hls0
  rw [← hls0] at hls hq0 hq1
  clear hls0
  generalize getTo (bsOf m.by') m.by'.length ((toI 24 imm at') - m.base) 4 = gv at hls HGE hgb
  obtain ⟨g0, g1⟩ := hgb
  go_wp2_with (first | (go_at_call 26; refine (HTO.out _).mono ?_; rintro e W2 ⟨rfl, hb2⟩; have HP2 := Lib.hid (HP.out.next hb2); clear hb2; have d0 := cell_of_block (i := 0) HP2.out.b2 rfl) | (refine wpList_load_row rfl 29 _ rfl w.heap.size rfl 29 (mC m ba bc (.slice s0 s1 s2) ta tc) (0, 0) _ HP2.out.b1 Tryd.underlying29 rfl (mSize _ _ _ _ _ _) ?_) | (go_at_call 37; refine (HHA.out _).mono ?_; rintro e W3 ⟨rfl, hb3⟩; have HP3 := Lib.hid (HP2.out.next hb3); clear hb3; have e19 : W3.cell? ⟨w.heap.size, 19, none⟩ = some (.int .i64 m.base) := cell_of_block (i := 19) HP3.out.b1 rfl; have e20 : W3.cell? ⟨w.heap.size, 20, none⟩ = some (.slice ba m.by'.length bc) := cell_of_block (i := 20) HP3.out.b1 rfl) | (go_at_call 19; refine (HGE.out _ HP3.out.bel).mono ?_; rintro e w' ⟨rfl, rfl⟩) | (go_at_call 38; refine (set_any _ ba bc (.slice s0 s1 s2) ta tc w.heap.size (w.heap.size + 1) 24 n mm imm ls _ HP3.out.b1 HP3.out.b2 hn0 hn1 hq0 hq1).mono ?_; rintro e W2 ⟨rfl, rfl⟩; have HPF := Lib.hid (HP3.out.set n.toNat hnn ls)) | (refine wpList_load_row rfl 29 _ rfl w.heap.size rfl 29 (mC (setR m n.toNat ls) ba bc (.slice s0 s1 s2) ta tc) (0, 0) _ HPF.out.b1 Tryd.underlying29 rfl (mSize _ _ _ _ _ _) ?_) | (refine wpList_store_row rfl 29 _ _ rfl (w.heap.size + 1 + 1) (mC (setR m n.toNat ls) ba bc (.slice s0 s1 s2) ta tc) rfl rfl 29 (mC zeroM none 0 (.slice none 0 0) none 0) HPF.out.b3 (mSize _ _ _ _ _ _) rfl (mAll _ _ _ _ _ _ _ _) ?_) | fail)
  exact bodyPost_ret (v := .tuple #[.agg (mC (setR m n.toNat ls) ba bc (.slice s0 s1 s2) ta tc), .int .i64 0]) (res_m rfl rfl (setRow_heap _ _ _ _ _ _ HPF.out.b3)) rfl ⟨by rw [HE.out], below_setRow HPF.out.bel (by omega) _⟩

set_option maxRecDepth 100000 in
set_option maxHeartbeats 4000000 in
theorem plain26y (m : Ma) (ba : Option Addr) (bc : Nat) (s0 : Option Addr) (s1 s2 : Nat) (ta : Option Addr) (tc : Nat) (n mm imm at' : Int) (w : World) (hn0 : 0 ≤ n) (hn1 : n ≤ 15) (hm0 : 0 ≤ mm) (hm1 : mm ≤ 15) (_hi0 : -10000 ≤ imm) (_hi1 : imm ≤ 10000) (_ha0 : 0 ≤ at') (_ha1 : at' ≤ 1000000000000) (hR : BRd w ba m.by') (hb0 : 0 ≤ m.base) (hb1 : m.base ≤ 1048576) (hl : m.by'.length ≤ 140737488355328) (hh : hasB m (a32 m mm) 4 = true) :
    Calls Tryd.prog 25 #[.agg (mC m ba bc (.slice s0 s1 s2) ta tc), .agg #[.int .i64 26, .int .i64 n, .int .i64 mm, .int .i64 imm], .int .i64 at'] w fun e w' => e = .returned (.tuple #[.agg (mC (setR m n.toNat (loadS m (a32 m mm) 4)) ba bc (.slice s0 s1 s2) ta tc), .int .i64 0]) ∧ Below w.heap.size w w' := by
  obtain ⟨V, hV⟩ : ∃ V, V = ((w.alloc (.cells (mC m ba bc (.slice s0 s1 s2) ta tc) 29)).alloc (.cells #[.int .i64 26, .int .i64 n, .int .i64 mm, .int .i64 imm] 45)).alloc (.cells (mC zeroM none 0 (.slice none 0 0) none 0) 29) := ⟨_, rfl⟩
  obtain ⟨hB, k1, k2, k3⟩ := pl_start w m ba bc (.slice s0 s1 s2) ta tc 26 n mm imm V hV
  have HV : Hid (((w.alloc (.cells (mC m ba bc (.slice s0 s1 s2) ta tc) 29)).alloc (.cells #[.int .i64 26, .int .i64 n, .int .i64 mm, .int .i64 imm] 45)).alloc (.cells #[.int .i64 0, .int .i64 0, .int .i64 0, .int .i64 0, .int .i64 0, .int .i64 0, .int .i64 0, .int .i64 0, .int .i64 0, .int .i64 0, .int .i64 0, .int .i64 0, .int .i64 0, .int .i64 0, .int .i64 0, .int .i64 0, .bool false, .int .i64 0, .int .i64 0, .int .i64 0, .slice none 0 0, .slice none 0 0, .slice none 0 0, .int .i64 0] 29) = V) := hV.symm
  clear hV
  have HB := Lib.hid hB
  have c0 := cell_of_block (i := 0) k2 rfl
  have c1 := cell_of_block (i := 1) k2 rfl
  have c2 := cell_of_block (i := 2) k2 rfl
  have c3 := cell_of_block (i := 3) k2 rfl
  have cn := cell_of_block (i := n.toNat) k1 (mC_reg m ba bc (.slice s0 s1 s2) ta tc n.toNat (by omega))
  have cm := cell_of_block (i := mm.toNat) k1 (mC_reg m ba bc (.slice s0 s1 s2) ta tc mm.toNat (by omega))
  have hn2 : n < 16 := by omega
  have hm2 : mm < 16 := by omega
  have hA : wrap32 (m.r n.toNat) = a32 m n := rfl
  have hB2 : wrap32 (m.r mm.toNat) = a32 m mm := rfl
  obtain ⟨p0, p1⟩ := w32_bd (m.r n.toNat)
  obtain ⟨p2, p3⟩ := w32_bd (m.r mm.toNat)
  rw [hA] at p0 p1
  rw [hB2] at p2 p3
  have HK1 := Lib.hid k1
  have HK2 := Lib.hid k2
  have HK3 := Lib.hid k3
  clear hB k1 k2 k3
  have HQ : Hid (∀ nq, ∃ w1, w1 = V.drewN nq ∧ Below w.heap.size w w1 ∧ w1.heap = V.heap) := fun nq => ⟨_, rfl, HB.out.trans (Go.Joins.below_draws _ V nq), by simp⟩
  go_enter Tryd.func25, Tryd.ntmps25
  go_wp2_with fail
  rw [HV.out]
  go_quiet (fail)
  obtain ⟨w1, hw1, hb1, hh1⟩ := HQ.out nq
  rw [← hw1]
  have k1 := HK1.out
  have k2 := HK2.out
  have k3 := HK3.out
  rw [← hh1] at k1 k2 k3
  have HB1 := Lib.hid hb1
  have G1 := Lib.hid k1
  have G2 := Lib.hid k2
  have G3 := Lib.hid k3
  clear hw1 hb1 hh1 HQ HV HB HK1 HK2 HK3 c0 c1 c2 c3 cn cm
  have c0 := cell_of_block (i := 0) k2 rfl
  have c1 := cell_of_block (i := 1) k2 rfl
  have c2 := cell_of_block (i := 2) k2 rfl
  have c3 := cell_of_block (i := 3) k2 rfl
  clear k1 k2 k3
  have HP : Hid (PB w m ba bc (.slice s0 s1 s2) ta tc 26 n mm imm w1) := ⟨HB1.out, G1.out, G2.out, G3.out⟩
  clear HB1 G1 G2 G3
  have HRD : Hid (∀ W, Below w.heap.size w W → BRd W ba m.by') := fun W hb => hR.next hb
  have HHA : Hid (∀ W, Calls Tryd.prog 37 #[.agg (mC m ba bc (.slice s0 s1 s2) ta tc), .int .i64 (a32 m mm), .int .i64 4] W fun e w' => e = .returned (.bool true) ∧ Below W.heap.size W w') := fun W => by rw [← hh]; exact has_any m ba bc (.slice s0 s1 s2) ta tc _ 4 W (by simp) hb0 hb1 hl (by omega) (by omega)
  obtain ⟨q1, q2, q3⟩ := hasB_in hh
  have hnn : n.toNat < 16 := by omega
  have HGE : Hid (∀ W, Below w.heap.size w W → Calls Tryd.prog 19 #[.slice ba m.by'.length bc, .int .i64 ((a32 m mm) - m.base), .int .i64 4] W fun e w' => e = .returned (.int .i64 (getTo (bsOf m.by') m.by'.length ((a32 m mm) - m.base) 4)) ∧ w' = W) := fun W hb => rget m ba bc _ 4 W (HRD.out W hb) hl (by omega) (by omega) (by omega) (by omega)
  have hgb := get4_bd m ((a32 m mm) - m.base)
  have hls : wrap32 (getTo (bsOf m.by') m.by'.length ((a32 m mm) - m.base) 4) = loadS m (a32 m mm) 4 := rfl
  have hq0 : -2147483648 ≤ loadS m (a32 m mm) 4 := by rw [← hls]; exact (w32_bd _).1
  have hq1 : loadS m (a32 m mm) 4 ≤ 2147483647 := by rw [← hls]; exact (w32_bd _).2
  clear hR
  clear hh
  obtain ⟨ls, hls0⟩ : ∃ x, x = loadS m (a32 m mm) 4 := ⟨_, rfl⟩
  have HE := Lib.hid hls0
  rw [← hls0] at hls hq0 hq1
  clear hls0
  generalize getTo (bsOf m.by') m.by'.length ((a32 m mm) - m.base) 4 = gv at hls HGE hgb
  obtain ⟨g0, g1⟩ := hgb
  go_wp2_with (first | (refine wpList_load_row rfl 29 _ rfl w.heap.size rfl 29 (mC m ba bc (.slice s0 s1 s2) ta tc) (0, 0) _ HP.out.b1 Tryd.underlying29 rfl (mSize _ _ _ _ _ _) ?_) | (go_at_call 37; refine (HHA.out _).mono ?_; rintro e W3 ⟨rfl, hb3⟩; have HP3 := Lib.hid (HP.out.next hb3); clear hb3; have e19 : W3.cell? ⟨w.heap.size, 19, none⟩ = some (.int .i64 m.base) := cell_of_block (i := 19) HP3.out.b1 rfl; have e20 : W3.cell? ⟨w.heap.size, 20, none⟩ = some (.slice ba m.by'.length bc) := cell_of_block (i := 20) HP3.out.b1 rfl) | (go_at_call 19; refine (HGE.out _ HP3.out.bel).mono ?_; rintro e w' ⟨rfl, rfl⟩) | (go_at_call 38; refine (set_any _ ba bc (.slice s0 s1 s2) ta tc w.heap.size (w.heap.size + 1) 26 n mm imm ls _ HP3.out.b1 HP3.out.b2 hn0 hn1 hq0 hq1).mono ?_; rintro e W2 ⟨rfl, rfl⟩; have HPF := Lib.hid (HP3.out.set n.toNat hnn ls)) | (refine wpList_load_row rfl 29 _ rfl w.heap.size rfl 29 (mC (setR m n.toNat ls) ba bc (.slice s0 s1 s2) ta tc) (0, 0) _ HPF.out.b1 Tryd.underlying29 rfl (mSize _ _ _ _ _ _) ?_) | (refine wpList_store_row rfl 29 _ _ rfl (w.heap.size + 1 + 1) (mC (setR m n.toNat ls) ba bc (.slice s0 s1 s2) ta tc) rfl rfl 29 (mC zeroM none 0 (.slice none 0 0) none 0) HPF.out.b3 (mSize _ _ _ _ _ _) rfl (mAll _ _ _ _ _ _ _ _) ?_) | fail)
  exact bodyPost_ret (v := .tuple #[.agg (mC (setR m n.toNat ls) ba bc (.slice s0 s1 s2) ta tc), .int .i64 0]) (res_m rfl rfl (setRow_heap _ _ _ _ _ _ HPF.out.b3)) rfl ⟨by rw [HE.out], below_setRow HPF.out.bel (by omega) _⟩

end Go.Proofs.YtabepbaldadmgaaDoor
