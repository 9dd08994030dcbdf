/- The document's own Plain: the instruction that puts. -/
import Derived.Test.YtabepbaldadmgaaDoorSmF
namespace Go.Proofs.YtabepbaldadmgaaDoor
open Go.RowKit Isa

theorem put_byte {bs : Nat → Int} (h : IsByte bs) (a size n : Int) (i : Nat) : 0 ≤ putAt bs a size n i ∧ putAt bs a size n i ≤ 255 := by
  unfold putAt
  split
  · omega
  · exact h i
/-- The bytes where a word is put. -/
def putS (m : Ma) (a v : Int) : List UInt8 := (List.range m.by'.length).map fun i => UInt8.ofNat (putAt (bsOf m.by') (a - m.base) 4 v i).toNat
theorem putS_len (m : Ma) (a v : Int) : (putS m a v).length = m.by'.length := by simp [putS]
theorem putS_at (m : Ma) (a v : Int) (i : Nat) (hi : i < m.by'.length) : bsOf (putS m a v) i = putAt (bsOf m.by') (a - m.base) 4 v i := by
  have hb := put_byte (bsOf_byte m.by') (a - m.base) 4 v i
  unfold bsOf putS
  rw [List.getD_eq_getElem?_getD]
  simp only [List.getElem?_map, List.getElem?_range hi, Option.map_some, Option.getD_some]
  rw [show bsOf m.by' = fun i => ((m.by'.getD i 0).toNat : Int) from rfl] at *
  generalize putAt (fun i => ((m.by'.getD i 0).toNat : Int)) (a - m.base) 4 v i = x at *
  simp [UInt8.toNat_ofNat']
  omega
theorem PB.by {w : World} {M : Ma} {ba : Option Addr} {bc : Nat} {sv : Value} {ta : Option Addr} {tc : Nat} {op n mm imm : Int} {W : World} (h : PB w M ba bc sv ta tc op n mm imm W) (l : List UInt8) (hl : l.length = M.by'.length) (ba' : Option Addr) (bc' : Nat) : PB w { M with by' := l } ba' bc' sv ta tc op n mm imm (W.setCell ⟨w.heap.size, 20, none⟩ (.slice ba' M.by'.length bc')) :=
  ⟨h.bel.setCell (Nat.le_refl _) _, by rw [_root_.Go.heap_setCell_same W w.heap.size 20 _ 29 _ h.b1, ← hl]; rfl, by rw [Below.heap_setCell _ _ _ _ (by show w.heap.size + 1 ≠ w.heap.size; omega)]; exact h.b2, by rw [Below.heap_setCell _ _ _ _ (by show w.heap.size + 1 + 1 ≠ w.heap.size; omega)]; exact h.b3⟩

set_option maxRecDepth 100000 in
set_option maxHeartbeats 4000000 in
theorem plain25n (m : Ma) (ba : Option Addr) (bc : Nat) (s0 : Option Addr) (s1 s2 : Nat) (ta : Option Addr) (tc : Nat) (n mm imm at' : Int) (w : World) (hn0 : 0 ≤ n) (hn1 : n ≤ 15) (hm0 : 0 ≤ mm) (hm1 : mm ≤ 15) (_hi0 : -10000 ≤ imm) (_hi1 : imm ≤ 10000) (_hR : BRd w ba m.by') (hb0 : 0 ≤ m.base) (hb1 : m.base ≤ 1048576) (hl : m.by'.length ≤ 140737488351232) (hh : hasB m (a32 m n) 4 = false) :
    Calls Tryd.prog 25 #[.agg (mC m ba bc (.slice s0 s1 s2) ta tc), .agg #[.int .i64 25, .int .i64 n, .int .i64 mm, .int .i64 imm], .int .i64 at'] w fun e w' => e = .returned (.tuple #[.agg (mC (m) ba bc (.slice s0 s1 s2) ta tc), .int .i64 3]) ∧ Below w.heap.size w w' := by
  obtain ⟨V, hV⟩ : ∃ V, V = ((w.alloc (.cells (mC m ba bc (.slice s0 s1 s2) ta tc) 29)).alloc (.cells #[.int .i64 25, .int .i64 n, .int .i64 mm, .int .i64 imm] 45)).alloc (.cells (mC zeroM none 0 (.slice none 0 0) none 0) 29) := ⟨_, rfl⟩
  obtain ⟨hB, k1, k2, k3⟩ := pl_start w m ba bc (.slice s0 s1 s2) ta tc 25 n mm imm V hV
  have HV : Hid (((w.alloc (.cells (mC m ba bc (.slice s0 s1 s2) ta tc) 29)).alloc (.cells #[.int .i64 25, .int .i64 n, .int .i64 mm, .int .i64 imm] 45)).alloc (.cells #[.int .i64 0, .int .i64 0, .int .i64 0, .int .i64 0, .int .i64 0, .int .i64 0, .int .i64 0, .int .i64 0, .int .i64 0, .int .i64 0, .int .i64 0, .int .i64 0, .int .i64 0, .int .i64 0, .int .i64 0, .int .i64 0, .bool false, .int .i64 0, .int .i64 0, .int .i64 0, .slice none 0 0, .slice none 0 0, .slice none 0 0, .int .i64 0] 29) = V) := hV.symm
  clear hV
  have HB := Lib.hid hB
  have c0 := cell_of_block (i := 0) k2 rfl
  have c1 := cell_of_block (i := 1) k2 rfl
  have c2 := cell_of_block (i := 2) k2 rfl
  have c3 := cell_of_block (i := 3) k2 rfl
  have cn := cell_of_block (i := n.toNat) k1 (mC_reg m ba bc (.slice s0 s1 s2) ta tc n.toNat (by omega))
  have cm := cell_of_block (i := mm.toNat) k1 (mC_reg m ba bc (.slice s0 s1 s2) ta tc mm.toNat (by omega))
  have hn2 : n < 16 := by omega
  have hm2 : mm < 16 := by omega
  have hA : wrap32 (m.r n.toNat) = a32 m n := rfl
  have hB2 : wrap32 (m.r mm.toNat) = a32 m mm := rfl
  obtain ⟨p0, p1⟩ := w32_bd (m.r n.toNat)
  obtain ⟨p2, p3⟩ := w32_bd (m.r mm.toNat)
  rw [hA] at p0 p1
  rw [hB2] at p2 p3
  have HK1 := Lib.hid k1
  have HK2 := Lib.hid k2
  have HK3 := Lib.hid k3
  clear hB k1 k2 k3
  have HQ : Hid (∀ nq, ∃ w1, w1 = V.drewN nq ∧ Below w.heap.size w w1 ∧ w1.heap = V.heap) := fun nq => ⟨_, rfl, HB.out.trans (Go.Joins.below_draws _ V nq), by simp⟩
  go_enter Tryd.func25, Tryd.ntmps25
  go_wp2_with fail
  rw [HV.out]
  go_quiet (fail)
  obtain ⟨w1, hw1, hb1, hh1⟩ := HQ.out nq
  rw [← hw1]
  have k1 := HK1.out
  have k2 := HK2.out
  have k3 := HK3.out
  rw [← hh1] at k1 k2 k3
  have HB1 := Lib.hid hb1
  have G1 := Lib.hid k1
  have G2 := Lib.hid k2
  have G3 := Lib.hid k3
  clear hw1 hb1 hh1 HQ HV HB HK1 HK2 HK3 c0 c1 c2 c3 cn cm
  have c0 := cell_of_block (i := 0) k2 rfl
  have c1 := cell_of_block (i := 1) k2 rfl
  have c2 := cell_of_block (i := 2) k2 rfl
  have c3 := cell_of_block (i := 3) k2 rfl
  clear k1 k2 k3
  have HP : Hid (PB w m ba bc (.slice s0 s1 s2) ta tc 25 n mm imm w1) := ⟨HB1.out, G1.out, G2.out, G3.out⟩
  clear HB1 G1 G2 G3
  have HHA : Hid (∀ W, Calls Tryd.prog 37 #[.agg (mC m ba bc (.slice s0 s1 s2) ta tc), .int .i64 (a32 m n), .int .i64 4] W fun e w' => e = .returned (.bool false) ∧ Below W.heap.size W w') := fun W => by rw [← hh]; exact has_any m ba bc (.slice s0 s1 s2) ta tc _ 4 W (by simp) hb0 hb1 (by omega) (by omega) (by omega)
  go_wp2_with (first | (refine wpList_load_row rfl 29 _ rfl w.heap.size rfl 29 (mC m ba bc (.slice s0 s1 s2) ta tc) (0, 0) _ HP.out.b1 Tryd.underlying29 rfl (mSize _ _ _ _ _ _) ?_) | (go_at_call 37; refine (HHA.out _).mono ?_; rintro e W3 ⟨rfl, hb3⟩; have HP3 := Lib.hid (HP.out.next hb3); clear hb3; have e19 : W3.cell? ⟨w.heap.size, 19, none⟩ = some (.int .i64 m.base) := cell_of_block (i := 19) HP3.out.b1 rfl; have e20 : W3.cell? ⟨w.heap.size, 20, none⟩ = some (.slice ba m.by'.length bc) := cell_of_block (i := 20) HP3.out.b1 rfl) | (refine wpList_load_row rfl 29 _ rfl w.heap.size rfl 29 (mC m ba bc (.slice s0 s1 s2) ta tc) (0, 0) _ HP3.out.b1 Tryd.underlying29 rfl (mSize _ _ _ _ _ _) ?_) | (refine wpList_store_row rfl 29 _ _ rfl (w.heap.size + 1 + 1) (mC m ba bc (.slice s0 s1 s2) ta tc) rfl rfl 29 (mC zeroM none 0 (.slice none 0 0) none 0) HP3.out.b3 (mSize _ _ _ _ _ _) rfl (mAll _ _ _ _ _ _ _ _) ?_) | fail)
  exact bodyPost_ret (v := .tuple #[.agg (mC m ba bc (.slice s0 s1 s2) ta tc), .int .i64 3]) (res_m rfl rfl (setRow_heap _ _ _ _ _ _ HP3.out.b3)) rfl ⟨rfl, below_setRow HP3.out.bel (by omega) _⟩

set_option maxRecDepth 100000 in
set_option maxHeartbeats 4000000 in
theorem plain25y (m : Ma) (ba : Option Addr) (bc : Nat) (s0 : Option Addr) (s1 s2 : Nat) (ta : Option Addr) (tc : Nat) (n mm imm at' : Int) (w : World) (hn0 : 0 ≤ n) (hn1 : n ≤ 15) (hm0 : 0 ≤ mm) (hm1 : mm ≤ 15) (_hi0 : -10000 ≤ imm) (_hi1 : imm ≤ 10000) (hR : BRd w ba m.by') (hb0 : 0 ≤ m.base) (hb1 : m.base ≤ 1048576) (hl : m.by'.length ≤ 140737488351232) (hh : hasB m (a32 m n) 4 = true) :
    Calls Tryd.prog 25 #[.agg (mC m ba bc (.slice s0 s1 s2) ta tc), .agg #[.int .i64 25, .int .i64 n, .int .i64 mm, .int .i64 imm], .int .i64 at'] w fun e w' => ∃ ba' bc', e = .returned (.tuple #[.agg (mC ({ m with by' := putS m (a32 m n) (a32 m mm) }) ba' bc' (.slice s0 s1 s2) ta tc), .int .i64 0]) ∧ Below w.heap.size w w' ∧ BRd w' ba' (putS m (a32 m n) (a32 m mm)) ∧ (∃ g, ba' = some ⟨g, 0, none⟩ ∧ w.heap.size ≤ g) := by
  obtain ⟨V, hV⟩ : ∃ V, V = ((w.alloc (.cells (mC m ba bc (.slice s0 s1 s2) ta tc) 29)).alloc (.cells #[.int .i64 25, .int .i64 n, .int .i64 mm, .int .i64 imm] 45)).alloc (.cells (mC zeroM none 0 (.slice none 0 0) none 0) 29) := ⟨_, rfl⟩
  obtain ⟨hB, k1, k2, k3⟩ := pl_start w m ba bc (.slice s0 s1 s2) ta tc 25 n mm imm V hV
  have HV : Hid (((w.alloc (.cells (mC m ba bc (.slice s0 s1 s2) ta tc) 29)).alloc (.cells #[.int .i64 25, .int .i64 n, .int .i64 mm, .int .i64 imm] 45)).alloc (.cells #[.int .i64 0, .int .i64 0, .int .i64 0, .int .i64 0, .int .i64 0, .int .i64 0, .int .i64 0, .int .i64 0, .int .i64 0, .int .i64 0, .int .i64 0, .int .i64 0, .int .i64 0, .int .i64 0, .int .i64 0, .int .i64 0, .bool false, .int .i64 0, .int .i64 0, .int .i64 0, .slice none 0 0, .slice none 0 0, .slice none 0 0, .int .i64 0] 29) = V) := hV.symm
  clear hV
  have HB := Lib.hid hB
  have c0 := cell_of_block (i := 0) k2 rfl
  have c1 := cell_of_block (i := 1) k2 rfl
  have c2 := cell_of_block (i := 2) k2 rfl
  have c3 := cell_of_block (i := 3) k2 rfl
  have cn := cell_of_block (i := n.toNat) k1 (mC_reg m ba bc (.slice s0 s1 s2) ta tc n.toNat (by omega))
  have cm := cell_of_block (i := mm.toNat) k1 (mC_reg m ba bc (.slice s0 s1 s2) ta tc mm.toNat (by omega))
  have hn2 : n < 16 := by omega
  have hm2 : mm < 16 := by omega
  have hA : wrap32 (m.r n.toNat) = a32 m n := rfl
  have hB2 : wrap32 (m.r mm.toNat) = a32 m mm := rfl
  obtain ⟨p0, p1⟩ := w32_bd (m.r n.toNat)
  obtain ⟨p2, p3⟩ := w32_bd (m.r mm.toNat)
  rw [hA] at p0 p1
  rw [hB2] at p2 p3
  have HK1 := Lib.hid k1
  have HK2 := Lib.hid k2
  have HK3 := Lib.hid k3
  clear hB k1 k2 k3
  have HQ : Hid (∀ nq, ∃ w1, w1 = V.drewN nq ∧ Below w.heap.size w w1 ∧ w1.heap = V.heap) := fun nq => ⟨_, rfl, HB.out.trans (Go.Joins.below_draws _ V nq), by simp⟩
  go_enter Tryd.func25, Tryd.ntmps25
  go_wp2_with fail
  rw [HV.out]
  go_quiet (fail)
  obtain ⟨w1, hw1, hb1, hh1⟩ := HQ.out nq
  rw [← hw1]
  have k1 := HK1.out
  have k2 := HK2.out
  have k3 := HK3.out
  rw [← hh1] at k1 k2 k3
  have HB1 := Lib.hid hb1
  have G1 := Lib.hid k1
  have G2 := Lib.hid k2
  have G3 := Lib.hid k3
  clear hw1 hb1 hh1 HQ HV HB HK1 HK2 HK3 c0 c1 c2 c3 cn cm
  have c0 := cell_of_block (i := 0) k2 rfl
  have c1 := cell_of_block (i := 1) k2 rfl
  have c2 := cell_of_block (i := 2) k2 rfl
  have c3 := cell_of_block (i := 3) k2 rfl
  clear k1 k2 k3
  have HP : Hid (PB w m ba bc (.slice s0 s1 s2) ta tc 25 n mm imm w1) := ⟨HB1.out, G1.out, G2.out, G3.out⟩
  clear HB1 G1 G2 G3
  have HHA : Hid (∀ W, Calls Tryd.prog 37 #[.agg (mC m ba bc (.slice s0 s1 s2) ta tc), .int .i64 (a32 m n), .int .i64 4] W fun e w' => e = .returned (.bool true) ∧ Below W.heap.size W w') := fun W => by rw [← hh]; exact has_any m ba bc (.slice s0 s1 s2) ta tc _ 4 W (by simp) hb0 hb1 (by omega) (by omega) (by omega)
  obtain ⟨q1, q2, q3⟩ := hasB_in hh
  have HRD : Hid (∀ W, Below w.heap.size w W → BRd W ba m.by') := fun W hb => hR.next hb
  have HPT : Hid (∀ W, Below w.heap.size w W → Calls Tryd.prog 39 #[.slice ba m.by'.length bc, .int .i64 (a32 m n - m.base), .int .i64 4, .int .i64 (a32 m mm)] W fun e w' => ∃ g c', e = .returned (.slice (some ⟨g, 0, none⟩) m.by'.length c') ∧ Below W.heap.size W w' ∧ g < w'.heap.size ∧ W.heap.size ≤ g ∧ ∀ i, i < m.by'.length → w'.cell? ⟨g, i, none⟩ = some (.int .u8 (putAt (bsOf m.by') (a32 m n - m.base) 4 (a32 m mm) i))) := fun W hb =>
    rPut_any ba m.by'.length bc (bsOf m.by') _ 4 _ W hl (fun h => by
      obtain ⟨b, off, e, _, hc⟩ := HRD.out W hb h
      exact ⟨b, off, e, hc⟩) (by omega) (by omega) (by omega) (by omega)
  clear hR
  go_wp2_with (first | (refine wpList_load_row rfl 29 _ rfl w.heap.size rfl 29 (mC m ba bc (.slice s0 s1 s2) ta tc) (0, 0) _ HP.out.b1 Tryd.underlying29 rfl (mSize _ _ _ _ _ _) ?_) | (go_at_call 37; refine (HHA.out _).mono ?_; rintro e W3 ⟨rfl, hb3⟩; have HP3 := Lib.hid (HP.out.next hb3); clear hb3; have e19 : W3.cell? ⟨w.heap.size, 19, none⟩ = some (.int .i64 m.base) := cell_of_block (i := 19) HP3.out.b1 rfl; have e20 : W3.cell? ⟨w.heap.size, 20, none⟩ = some (.slice ba m.by'.length bc) := cell_of_block (i := 20) HP3.out.b1 rfl) | (go_at_call 39; refine (HPT.out _ HP3.out.bel).mono ?_; rintro e W4 ⟨g, c', rfl, hb4, hg4, hge, hcell⟩; have HP4 := Lib.hid (HP3.out.next hb4); have HCL := Lib.hid hcell; have HGE := Lib.hid (And.intro hg4 (Nat.le_trans (Array.getElem?_eq_some_iff.1 HP3.out.b3).1 hge)); clear hb4 hg4 hge hcell; have f19 : W4.cell? ⟨w.heap.size, 20, none⟩ = some (.slice ba m.by'.length bc) := cell_of_block (i := 20) HP4.out.b1 rfl; have f20 := blk_froz (i := 20) HP4.out.b1; have HPF := Lib.hid (HP4.out.by (putS m (a32 m n) (a32 m mm)) (putS_len _ _ _) (some ⟨g, 0, none⟩) c')) | (refine wpList_load_row rfl 29 _ rfl w.heap.size rfl 29 (mC ({ m with by' := putS m (a32 m n) (a32 m mm) }) (some ⟨g, 0, none⟩) c' (.slice s0 s1 s2) ta tc) (0, 0) _ HPF.out.b1 Tryd.underlying29 rfl (mSize _ _ _ _ _ _) ?_) | (refine wpList_store_row rfl 29 _ _ rfl (w.heap.size + 1 + 1) (mC ({ m with by' := putS m (a32 m n) (a32 m mm) }) (some ⟨g, 0, none⟩) c' (.slice s0 s1 s2) ta tc) rfl rfl 29 (mC zeroM none 0 (.slice none 0 0) none 0) HPF.out.b3 (mSize _ _ _ _ _ _) rfl (mAll _ _ _ _ _ _ _ _) ?_) | fail)
  refine bodyPost_ret (v := .tuple #[.agg (mC ({ m with by' := putS m (a32 m n) (a32 m mm) }) (some ⟨g, 0, none⟩) c' (.slice s0 s1 s2) ta tc), .int .i64 0]) (res_m rfl rfl (setRow_heap _ _ _ _ _ _ HPF.out.b3)) rfl ⟨_, _, rfl, below_setRow HPF.out.bel (by omega) _, fun _ => ⟨g, 0, rfl, by simpa using HGE.out.1, fun i hi => ?_⟩, g, rfl, by have := HGE.out.2; omega⟩
  rw [putS_len] at hi
  rw [putS_at m _ _ i hi, ← HCL.out i hi, Nat.zero_add]
  have hge := HGE.out.2
  rw [cell_setRow_other _ _ _ _ (by show g ≠ w.heap.size + 1 + 1; omega)]
  exact World.cell?_of_block (Below.heap_setCell _ _ _ _ (by show g ≠ w.heap.size; omega))

end Go.Proofs.YtabepbaldadmgaaDoor
