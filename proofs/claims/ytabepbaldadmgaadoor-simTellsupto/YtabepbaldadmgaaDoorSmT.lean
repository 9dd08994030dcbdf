/- The document's own Plain: the instruction that tells. -/
import Derived.Test.YtabepbaldadmgaaDoorPut41
import Derived.Test.YtabepbaldadmgaaDoorSnI
namespace Go.Proofs.YtabepbaldadmgaaDoor
open Go.RowKit Isa

theorem cell_id {w : World} {a : Addr} {v : Value} (h : w.cell? a = some v) : w.cell? a = some v := h
/-- The boxes of Plain; what is made lies from B on. -/
structure TB (w : World) (M : Ma) (ba : Option Addr) (bc : Nat) (sv : Value) (ta : Option Addr) (tc : Nat) (n mm imm : Int) (B : Nat) (W : World) : Prop where
  pb : PB w M ba bc sv ta tc 27 n mm imm W
  bb : w.heap.size + 3 ≤ B
  bz : B ≤ W.heap.size
theorem TB.next {w : World} {M : Ma} {ba : Option Addr} {bc : Nat} {sv : Value} {ta : Option Addr} {tc : Nat} {n mm imm : Int} {B : Nat} {W W' : World} (h : TB w M ba bc sv ta tc n mm imm B W) (hb : Below W.heap.size W W') : TB w M ba bc sv ta tc n mm imm B W' := ⟨h.pb.next hb, h.bb, Nat.le_trans h.bz hb.size⟩
theorem TB.grown {w : World} {M : Ma} {ba : Option Addr} {bc : Nat} {sv : Value} {ta : Option Addr} {tc : Nat} {n mm imm : Int} {B : Nat} {W W' : World} {row : Option Nat} (h : TB w M ba bc sv ta tc n mm imm B W) (hg : W.grownBy W' row) (hr : ∀ k, row = some k → B ≤ k) : TB w M ba bc sv ta tc n mm imm B W' := by
  have hbb := h.bb
  have hbz := h.bz
  have ne : ∀ q, q < B → some q ≠ row := fun q hq e => by have := hr q e.symm; omega
  exact ⟨⟨h.pb.bel.grown hg (by omega) (fun k hk => by have := hr k hk; omega), (hg.block _ (by omega) (ne _ (by omega))).trans h.pb.b1, (hg.block _ (by omega) (ne _ (by omega))).trans h.pb.b2, (hg.block _ (by omega) (ne _ (by omega))).trans h.pb.b3⟩, h.bb, Nat.le_trans h.bz hg.size⟩
theorem PB.told {w : World} {M : Ma} {ba : Option Addr} {bc : Nat} {sv : Value} {ta : Option Addr} {tc : Nat} {op n mm imm : Int} {W : World} (h : PB w M ba bc sv ta tc op n mm imm W) (l : List Int) (ta' : Option Addr) (len tc' : Nat) (hl : len = l.length) : PB w { M with told := l } ba bc sv ta' tc' op n mm imm (W.setCell ⟨w.heap.size, 22, none⟩ (.slice ta' len tc')) :=
  ⟨h.bel.setCell (Nat.le_refl _) _, by rw [_root_.Go.heap_setCell_same W w.heap.size 22 _ 29 _ h.b1, hl]; rfl, by rw [Below.heap_setCell _ _ _ _ (by show w.heap.size + 1 ≠ w.heap.size; omega)]; exact h.b2, by rw [Below.heap_setCell _ _ _ _ (by show w.heap.size + 1 + 1 ≠ w.heap.size; omega)]; exact h.b3⟩

set_option maxRecDepth 100000 in
set_option maxHeartbeats 16000000 in
theorem trap_any : TrapOk := by
  intro m ba bc s0 s1 s2 ta tc n mm imm at' w hn0 hn1 hm0 hm1 hM hR hT
  obtain ⟨V, hV⟩ : ∃ V, V = ((w.alloc (.cells (mC m ba bc (.slice s0 s1 s2) ta tc) 29)).alloc (.cells #[.int .i64 27, .int .i64 n, .int .i64 mm, .int .i64 imm] 45)).alloc (.cells (mC zeroM none 0 (.slice none 0 0) none 0) 29) := ⟨_, rfl⟩
  obtain ⟨hB, k1, k2, k3⟩ := pl_start w m ba bc (.slice s0 s1 s2) ta tc 27 n mm imm V hV
  have HV : Hid (((w.alloc (.cells (mC m ba bc (.slice s0 s1 s2) ta tc) 29)).alloc (.cells #[.int .i64 27, .int .i64 n, .int .i64 mm, .int .i64 imm] 45)).alloc (.cells #[.int .i64 0, .int .i64 0, .int .i64 0, .int .i64 0, .int .i64 0, .int .i64 0, .int .i64 0, .int .i64 0, .int .i64 0, .int .i64 0, .int .i64 0, .int .i64 0, .int .i64 0, .int .i64 0, .int .i64 0, .int .i64 0, .bool false, .int .i64 0, .int .i64 0, .int .i64 0, .slice none 0 0, .slice none 0 0, .slice none 0 0, .int .i64 0] 29) = V) := hV.symm
  clear hV
  have HB := Lib.hid hB
  have c0 := cell_of_block (i := 0) k2 rfl
  have c1 := cell_of_block (i := 1) k2 rfl
  have c2 := cell_of_block (i := 2) k2 rfl
  have c3 := cell_of_block (i := 3) k2 rfl
  have cn := cell_of_block (i := n.toNat) k1 (mC_reg m ba bc (.slice s0 s1 s2) ta tc n.toNat (by omega))
  have cm := cell_of_block (i := mm.toNat) k1 (mC_reg m ba bc (.slice s0 s1 s2) ta tc mm.toNat (by omega))
  have hn2 : n < 16 := by omega
  have hm2 : mm < 16 := by omega
  have hA : wrap32 (m.r n.toNat) = a32 m n := rfl
  have hB2 : wrap32 (m.r mm.toNat) = a32 m mm := rfl
  obtain ⟨p0, p1⟩ := w32_bd (m.r n.toNat)
  obtain ⟨p2, p3⟩ := w32_bd (m.r mm.toNat)
  rw [hA] at p0 p1
  rw [hB2] at p2 p3
  have HK1 := Lib.hid k1
  have HK2 := Lib.hid k2
  have HK3 := Lib.hid k3
  clear hB k1 k2 k3
  have HQ : Hid (∀ nq, ∃ w1, w1 = V.drewN nq ∧ Below w.heap.size w w1 ∧ w1.heap = V.heap) := fun nq => ⟨_, rfl, HB.out.trans (Go.Joins.below_draws _ V nq), by simp⟩
  go_enter Tryd.func25, Tryd.ntmps25
  go_wp2_with fail
  rw [HV.out]
  go_quiet (fail)
  obtain ⟨w1, hw1, hb1, hh1⟩ := HQ.out nq
  rw [← hw1]
  have k1 := HK1.out
  have k2 := HK2.out
  have k3 := HK3.out
  rw [← hh1] at k1 k2 k3
  have HB1 := Lib.hid hb1
  have G1 := Lib.hid k1
  have G2 := Lib.hid k2
  have G3 := Lib.hid k3
  clear hw1 hb1 hh1 HQ HV HB HK1 HK2 HK3 c0 c1 c2 c3 cn cm
  have c0 := cell_of_block (i := 0) k2 rfl
  have c1 := cell_of_block (i := 1) k2 rfl
  have c2 := cell_of_block (i := 2) k2 rfl
  have c3 := cell_of_block (i := 3) k2 rfl
  clear k1 k2 k3
  have HP : Hid (PB w m ba bc (.slice s0 s1 s2) ta tc 27 n mm imm w1) := ⟨HB1.out, G1.out, G2.out, G3.out⟩
  clear HB1 G1 G2 G3
  have htl := hM.tl
  have hdone : ∀ (a2 : Option Addr) (c2 : Nat) (X : World), X.ownsRow w1.heap.size 3 1 (.slice a2 (m.told.length + 1) c2) (m.told.length + 1) (icells (m.told ++ [m.r 0])) → PB w { m with told := m.told ++ [m.r 0] } ba bc (.slice s0 s1 s2) a2 c2 27 n mm imm (X.setCell ⟨w.heap.size, 22, none⟩ (.slice a2 (m.told.length + 1) c2)) → w.heap.size + 3 ≤ w1.heap.size →
      PlPost w m ba ta s0 s1 s2 { m with told := m.told ++ [m.r 0] } 0 (.returned (.tuple #[.agg (mC { m with told := m.told ++ [m.r 0] } ba bc (.slice s0 s1 s2) a2 c2), .int .i64 0])) ((X.setCell ⟨w.heap.size, 22, none⟩ (.slice a2 (m.told.length + 1) c2)).setRow (w.heap.size + 1 + 1) (mC { m with told := m.told ++ [m.r 0] } ba bc (.slice s0 s1 s2) a2 c2)) := fun a2 c2 X ho hp hb => by
    have e1 : (m.told ++ [m.r 0]).length = m.told.length + 1 := by simp
    rw [← e1] at ho
    obtain ⟨g, rfl, hg1, hg2, hg3⟩ := own_trd ho (by omega)
    have hbel := below_setRow hp.bel (show w.heap.size ≤ w.heap.size + 1 + 1 by omega) (mC { m with told := m.told ++ [m.r 0] } ba bc (.slice s0 s1 s2) (some ⟨g, 0, none⟩) c2)
    refine ⟨ba, bc, _, c2, rfl, hbel, hR.next hbel, fun h0 => ?_, Or.inl ⟨rfl, rfl⟩, Or.inr ⟨g, rfl, by omega⟩⟩
    obtain ⟨b, off, e, hlt, hc⟩ := hg3 h0
    cases e
    refine ⟨g, 0, rfl, by simpa [World.setRow] using hg2, fun i hi => ?_⟩
    rw [← hc i hi, cell_setRow_other _ _ _ _ (by show g ≠ w.heap.size + 1 + 1; omega)]
    exact World.cell?_of_block (Below.heap_setCell _ _ _ _ (by show g ≠ w.heap.size; omega))
  have HDONE := Lib.hid hdone
  have HT0 : Hid (TB w m ba bc (.slice s0 s1 s2) ta tc n mm imm w1.heap.size w1) := ⟨HP.out, by have := (Array.getElem?_eq_some_iff.1 HP.out.b3).1; omega, Nat.le_refl _⟩
  clear hdone hM hR
  generalize w1.heap.size = B at HDONE HT0
  go_wp2_with fail
  refine wp_region_noPanic ?_
  have hK0 : w1.drew.cell? ⟨w.heap.size, 0, none⟩ = some (.int .i64 (m.r 0)) := cell_of_block (i := 0) HP.out.b1 rfl
  refine wp_region_held_drew (S := fun w' => w'.cell? ⟨w.heap.size, 0, none⟩ = some (.int .i64 (m.r 0))) (by kernel_rfl) hK0 (fun hHeld => ?_)
  have HTd := Lib.hid (HT0.out.next (Below.refl _ _).drew)
  clear hK0 HT0 HP c0 c1 c2 c3
  generalize w1.drew = V0 at *
  have HT0 := HTd
  clear HTd
  refine take_at 1 183 (v := ?_) rfl rfl (by kernel_rfl) (by kernel_rfl) (by kernel_rfl) (fun _ _ _ h => h) rfl ?_ hHeld ?_
  rotate_left
  · intro w hSw
    go_simp
    try with_reducible rfl
  simp only [List.setIfInBounds_toArray, List.set_cons_zero, List.set_cons_succ]
  refine take_at 4 186 (v := ?_) rfl rfl (by kernel_rfl) (by kernel_rfl) (by kernel_rfl) (fun _ _ _ h => h) rfl ?_ hHeld ?_
  rotate_left
  · intro w hSw
    go_simp
    try with_reducible rfl
  simp only [List.setIfInBounds_toArray, List.set_cons_zero, List.set_cons_succ]
  refine take_at 5 187 (v := ?_) rfl rfl (by kernel_rfl) (by kernel_rfl) (by kernel_rfl) (fun _ _ _ h => h) rfl ?_ hHeld ?_
  rotate_left
  · intro w hSw
    go_simp
    try with_reducible rfl
  simp only [List.setIfInBounds_toArray, List.set_cons_zero, List.set_cons_succ]
  refine take_at 6 188 (v := ?_) rfl rfl (by kernel_rfl) (by kernel_rfl) (by kernel_rfl) (fun _ _ _ h => h) rfl ?_ hHeld ?_
  rotate_left
  · intro w hSw
    have xl := cell_id hSw
    go_simp
    try with_reducible rfl
  simp only [List.setIfInBounds_toArray, List.set_cons_zero, List.set_cons_succ]
  refine wpAnyH_ready (rs := [0, 2, 7]) (by kernel_rfl) (by simp) ?_
  refine AllReadyH.cons rfl (fun K hK => ?_) (AllReadyH.cons rfl (fun K hK => ?_) (AllReadyH.cons rfl (fun K hK => ?_) AllReadyH.nil))
  · go_simp
    generalize hWn : World.alloc V0 _ = V1
    have hb1 : Below V0.heap.size V0 V1 := by rw [← hWn]; exact oalloc _ _
    have HG1 : Hid (V1.heap[V0.heap.size]? = some (.cells #[] 3 (0, 0))) := by unfold Hid; rw [← hWn]; exact blk_new V0 _ _
    have hg0 := HT0.out.bz
    have HT1 := Lib.hid (HT0.out.next hb1)
    refine hK.out _ _ (cell_of_block (i := 0) HT1.out.pb.b1 rfl) (fun hHeld => ?_)
    clear hK K hb1 hWn
    refine wpAnyH_ready (rs := [2, 7]) (by kernel_rfl) (by simp) ?_
    refine AllReadyH.cons rfl (fun K hK => ?_) (AllReadyH.cons rfl (fun K hK => ?_) AllReadyH.nil)
    · have xl := cell_of_block (i := 22) HT1.out.pb.b1 rfl
      go_simp
      refine hK.out _ _ hHeld (fun hHeld => ?_)
      clear hK K xl
      refine wpAnyH_ready (rs := [3, 7]) (by kernel_rfl) (by simp) ?_
      refine AllReadyH.cons rfl (fun K hK => ?_) (AllReadyH.cons rfl (fun K hK => ?_) AllReadyH.nil)
      · obtain ⟨v1, V2, happ, hown, hgr⟩ := app1 B V0.heap.size ta tc m.told V1 HG1.out hg0 (hT.next HT1.out.pb.bel) htl
        have HA := Lib.hid happ
        have HO2 := Lib.hid hown
        have HT2 := Lib.hid (HT1.out.grown hgr (fun k hk => by injection hk with hk; omega))
        clear happ hown hgr
        refine step_app_eq (by rfl) 185 (by rfl) _ _ _ _ (by rfl) _ _ (by rfl) (by rfl) HA.out ?_
        simp only [List.setIfInBounds_toArray, List.set_cons_zero, List.set_cons_succ]
        refine hK.out _ _ (cell_of_block (i := 0) HT2.out.pb.b1 rfl) (fun hHeld => ?_)
        clear hK K HA
        refine wpAnyH_ready (rs := [7]) (by kernel_rfl) (by simp) ?_
        refine AllReadyH.cons rfl (fun K hK => ?_) AllReadyH.nil
        go_simp
        generalize hWn : World.alloc V2 _ = V3
        have hb1 : Below V2.heap.size V2 V3 := by rw [← hWn]; exact oalloc _ _
        have HN3 : Hid (V3.heap[V2.heap.size]? = some (.cells #[.int .i64 (m.r 0)] 3 (0, 0))) := by unfold Hid; rw [← hWn]; exact blk_new V2 _ _
        have HT3 := Lib.hid (HT2.out.next hb1)
        have HO3 := Lib.hid (HO2.out.kept (ogbelow none hb1 (Nat.le_refl _)) (by cases v1.ownBlock <;> simp))
        refine hK.out _ _ (cell_of_block (i := 0) HT3.out.pb.b1 rfl) (fun hHeld => ?_)
        clear hK K hb1 hWn
        refine wpAnyH_ready (rs := [8]) (by kernel_rfl) (by simp) ?_
        refine AllReadyH.cons rfl (fun K hK => ?_) AllReadyH.nil
        obtain ⟨a2, c2, V4, happ, hown, hgr⟩ := app2 B v1 m.told V3 HO3.out V2.heap.size (m.r 0) HN3.out htl HT3.out.bz
        have HA := Lib.hid happ
        have HO4 := Lib.hid hown
        have HT4 := Lib.hid (HT3.out.grown hgr (fun k hk => (HO3.out.lt k hk).1))
        clear happ hown hgr
        refine step_app_eq (by rfl) 190 (by rfl) _ _ _ _ (by rfl) _ _ (by rfl) (by rfl) HA.out ?_
        simp only [List.setIfInBounds_toArray, List.set_cons_zero, List.set_cons_succ]
        refine hK.out _ _ (cell_of_block (i := 0) HT4.out.pb.b1 rfl) (fun hHeld => ?_)
        clear hK K HA
        refine take_at 9 191 (v := ?_) rfl rfl (by kernel_rfl) (by kernel_rfl) (by kernel_rfl) (fun _ _ _ h => h) rfl ?_ hHeld ?_
        rotate_left
        · intro w hSw
          go_simp
          try with_reducible rfl
        simp only [List.setIfInBounds_toArray, List.set_cons_zero, List.set_cons_succ]
        refine wpAnyH_ready (rs := [10]) (by kernel_rfl) (by simp) ?_
        refine AllReadyH.cons rfl (fun K hK => ?_) AllReadyH.nil
        have x22 := cell_of_block (i := 22) HT4.out.pb.b1 rfl
        have xf := blk_froz (i := 22) HT4.out.pb.b1
        have HPF := Lib.hid (HT4.out.pb.told (m.told ++ [m.r 0]) a2 (m.told.length + 1) c2 (by simp))
        go_simp
        refine hK.out _ _ (cell_of_block (i := 0) HPF.out.b1 rfl) (fun hHeld => ?_)
        clear hK K x22 xf
        refine wpAnyH_done (by kernel_rfl) ?_ _
        refine NoPanic.normal ?_
        clear hHeld
        go_wp2_with (first | (refine wpList_load_row rfl 29 _ rfl w.heap.size rfl 29 (mC { m with told := m.told ++ [m.r 0] } ba bc (.slice s0 s1 s2) a2 c2) (0, 0) _ HPF.out.b1 Tryd.underlying29 rfl (mSize _ _ _ _ _ _) ?_) | (refine wpList_store_row rfl 29 _ _ rfl (w.heap.size + 1 + 1) (mC { m with told := m.told ++ [m.r 0] } ba bc (.slice s0 s1 s2) a2 c2) rfl rfl 29 (mC zeroM none 0 (.slice none 0 0) none 0) HPF.out.b3 (mSize _ _ _ _ _ _) rfl (mAll _ _ _ _ _ _ _ _) ?_) | fail)
        exact bodyPost_ret (v := .tuple #[.agg (mC { m with told := m.told ++ [m.r 0] } ba bc (.slice s0 s1 s2) a2 c2), .int .i64 0]) (res_m rfl rfl (setRow_heap _ _ _ _ _ _ HPF.out.b3)) rfl (HDONE.out _ _ _ HO4.out HPF.out HT4.out.bb)
      · go_simp
        generalize hWn : World.alloc V1 _ = V2
        have hb1 : Below V1.heap.size V1 V2 := by rw [← hWn]; exact oalloc _ _
        have HN2 : Hid (V2.heap[V1.heap.size]? = some (.cells #[.int .i64 (m.r 0)] 3 (0, 0))) := by unfold Hid; rw [← hWn]; exact blk_new V1 _ _
        have HT2 := Lib.hid (HT1.out.next hb1)
        have HG2 := Lib.hid ((hb1.block _ (Array.getElem?_eq_some_iff.1 HG1.out).1).trans HG1.out)
        refine hK.out _ _ (cell_of_block (i := 0) HT2.out.pb.b1 rfl) (fun hHeld => ?_)
        clear hK K hb1 hWn
        refine wpAnyH_ready (rs := [3]) (by kernel_rfl) (by simp) ?_
        refine AllReadyH.cons rfl (fun K hK => ?_) AllReadyH.nil
        obtain ⟨v1, V3, happ, hown, hgr⟩ := app1 B V0.heap.size ta tc m.told V2 HG2.out hg0 (hT.next HT2.out.pb.bel) htl
        have HA := Lib.hid happ
        have HO3 := Lib.hid hown
        have HT3 := Lib.hid (HT2.out.grown hgr (fun k hk => by injection hk with hk; omega))
        have HN3 := Lib.hid ((hgr.block _ (Array.getElem?_eq_some_iff.1 HN2.out).1 (fun e => by injection e with e; have h1 := HN2.out; rw [e, HG2.out] at h1; simp at h1)).trans HN2.out)
        clear happ hown hgr
        refine step_app_eq (by rfl) 185 (by rfl) _ _ _ _ (by rfl) _ _ (by rfl) (by rfl) HA.out ?_
        simp only [List.setIfInBounds_toArray, List.set_cons_zero, List.set_cons_succ]
        refine hK.out _ _ (cell_of_block (i := 0) HT3.out.pb.b1 rfl) (fun hHeld => ?_)
        clear hK K HA
        refine wpAnyH_ready (rs := [8]) (by kernel_rfl) (by simp) ?_
        refine AllReadyH.cons rfl (fun K hK => ?_) AllReadyH.nil
        obtain ⟨a2, c2, V4, happ, hown, hgr⟩ := app2 B v1 m.told V3 HO3.out V1.heap.size (m.r 0) HN3.out htl HT3.out.bz
        have HA := Lib.hid happ
        have HO4 := Lib.hid hown
        have HT4 := Lib.hid (HT3.out.grown hgr (fun k hk => (HO3.out.lt k hk).1))
        clear happ hown hgr
        refine step_app_eq (by rfl) 190 (by rfl) _ _ _ _ (by rfl) _ _ (by rfl) (by rfl) HA.out ?_
        simp only [List.setIfInBounds_toArray, List.set_cons_zero, List.set_cons_succ]
        refine hK.out _ _ (cell_of_block (i := 0) HT4.out.pb.b1 rfl) (fun hHeld => ?_)
        clear hK K HA
        refine take_at 9 191 (v := ?_) rfl rfl (by kernel_rfl) (by kernel_rfl) (by kernel_rfl) (fun _ _ _ h => h) rfl ?_ hHeld ?_
        rotate_left
        · intro w hSw
          go_simp
          try with_reducible rfl
        simp only [List.setIfInBounds_toArray, List.set_cons_zero, List.set_cons_succ]
        refine wpAnyH_ready (rs := [10]) (by kernel_rfl) (by simp) ?_
        refine AllReadyH.cons rfl (fun K hK => ?_) AllReadyH.nil
        have x22 := cell_of_block (i := 22) HT4.out.pb.b1 rfl
        have xf := blk_froz (i := 22) HT4.out.pb.b1
        have HPF := Lib.hid (HT4.out.pb.told (m.told ++ [m.r 0]) a2 (m.told.length + 1) c2 (by simp))
        go_simp
        refine hK.out _ _ (cell_of_block (i := 0) HPF.out.b1 rfl) (fun hHeld => ?_)
        clear hK K x22 xf
        refine wpAnyH_done (by kernel_rfl) ?_ _
        refine NoPanic.normal ?_
        clear hHeld
        go_wp2_with (first | (refine wpList_load_row rfl 29 _ rfl w.heap.size rfl 29 (mC { m with told := m.told ++ [m.r 0] } ba bc (.slice s0 s1 s2) a2 c2) (0, 0) _ HPF.out.b1 Tryd.underlying29 rfl (mSize _ _ _ _ _ _) ?_) | (refine wpList_store_row rfl 29 _ _ rfl (w.heap.size + 1 + 1) (mC { m with told := m.told ++ [m.r 0] } ba bc (.slice s0 s1 s2) a2 c2) rfl rfl 29 (mC zeroM none 0 (.slice none 0 0) none 0) HPF.out.b3 (mSize _ _ _ _ _ _) rfl (mAll _ _ _ _ _ _ _ _) ?_) | fail)
        exact bodyPost_ret (v := .tuple #[.agg (mC { m with told := m.told ++ [m.r 0] } ba bc (.slice s0 s1 s2) a2 c2), .int .i64 0]) (res_m rfl rfl (setRow_heap _ _ _ _ _ _ HPF.out.b3)) rfl (HDONE.out _ _ _ HO4.out HPF.out HT4.out.bb)
    · go_simp
      generalize hWn : World.alloc V1 _ = V2
      have hb1 : Below V1.heap.size V1 V2 := by rw [← hWn]; exact oalloc _ _
      have HN2 : Hid (V2.heap[V1.heap.size]? = some (.cells #[.int .i64 (m.r 0)] 3 (0, 0))) := by unfold Hid; rw [← hWn]; exact blk_new V1 _ _
      have HT2 := Lib.hid (HT1.out.next hb1)
      have HG2 := Lib.hid ((hb1.block _ (Array.getElem?_eq_some_iff.1 HG1.out).1).trans HG1.out)
      refine hK.out _ _ (cell_of_block (i := 0) HT2.out.pb.b1 rfl) (fun hHeld => ?_)
      clear hK K hb1 hWn
      refine wpAnyH_ready (rs := [2]) (by kernel_rfl) (by simp) ?_
      refine AllReadyH.cons rfl (fun K hK => ?_) AllReadyH.nil
      have xl := cell_of_block (i := 22) HT2.out.pb.b1 rfl
      go_simp
      refine hK.out _ _ hHeld (fun hHeld => ?_)
      clear hK K xl
      refine wpAnyH_ready (rs := [3]) (by kernel_rfl) (by simp) ?_
      refine AllReadyH.cons rfl (fun K hK => ?_) AllReadyH.nil
      obtain ⟨v1, V3, happ, hown, hgr⟩ := app1 B V0.heap.size ta tc m.told V2 HG2.out hg0 (hT.next HT2.out.pb.bel) htl
      have HA := Lib.hid happ
      have HO3 := Lib.hid hown
      have HT3 := Lib.hid (HT2.out.grown hgr (fun k hk => by injection hk with hk; omega))
      have HN3 := Lib.hid ((hgr.block _ (Array.getElem?_eq_some_iff.1 HN2.out).1 (fun e => by injection e with e; have h1 := HN2.out; rw [e, HG2.out] at h1; simp at h1)).trans HN2.out)
      clear happ hown hgr
      refine step_app_eq (by rfl) 185 (by rfl) _ _ _ _ (by rfl) _ _ (by rfl) (by rfl) HA.out ?_
      simp only [List.setIfInBounds_toArray, List.set_cons_zero, List.set_cons_succ]
      refine hK.out _ _ (cell_of_block (i := 0) HT3.out.pb.b1 rfl) (fun hHeld => ?_)
      clear hK K HA
      refine wpAnyH_ready (rs := [8]) (by kernel_rfl) (by simp) ?_
      refine AllReadyH.cons rfl (fun K hK => ?_) AllReadyH.nil
      obtain ⟨a2, c2, V4, happ, hown, hgr⟩ := app2 B v1 m.told V3 HO3.out V1.heap.size (m.r 0) HN3.out htl HT3.out.bz
      have HA := Lib.hid happ
      have HO4 := Lib.hid hown
      have HT4 := Lib.hid (HT3.out.grown hgr (fun k hk => (HO3.out.lt k hk).1))
      clear happ hown hgr
      refine step_app_eq (by rfl) 190 (by rfl) _ _ _ _ (by rfl) _ _ (by rfl) (by rfl) HA.out ?_
      simp only [List.setIfInBounds_toArray, List.set_cons_zero, List.set_cons_succ]
      refine hK.out _ _ (cell_of_block (i := 0) HT4.out.pb.b1 rfl) (fun hHeld => ?_)
      clear hK K HA
      refine take_at 9 191 (v := ?_) rfl rfl (by kernel_rfl) (by kernel_rfl) (by kernel_rfl) (fun _ _ _ h => h) rfl ?_ hHeld ?_
      rotate_left
      · intro w hSw
        go_simp
        try with_reducible rfl
      simp only [List.setIfInBounds_toArray, List.set_cons_zero, List.set_cons_succ]
      refine wpAnyH_ready (rs := [10]) (by kernel_rfl) (by simp) ?_
      refine AllReadyH.cons rfl (fun K hK => ?_) AllReadyH.nil
      have x22 := cell_of_block (i := 22) HT4.out.pb.b1 rfl
      have xf := blk_froz (i := 22) HT4.out.pb.b1
      have HPF := Lib.hid (HT4.out.pb.told (m.told ++ [m.r 0]) a2 (m.told.length + 1) c2 (by simp))
      go_simp
      refine hK.out _ _ (cell_of_block (i := 0) HPF.out.b1 rfl) (fun hHeld => ?_)
      clear hK K x22 xf
      refine wpAnyH_done (by kernel_rfl) ?_ _
      refine NoPanic.normal ?_
      clear hHeld
      go_wp2_with (first | (refine wpList_load_row rfl 29 _ rfl w.heap.size rfl 29 (mC { m with told := m.told ++ [m.r 0] } ba bc (.slice s0 s1 s2) a2 c2) (0, 0) _ HPF.out.b1 Tryd.underlying29 rfl (mSize _ _ _ _ _ _) ?_) | (refine wpList_store_row rfl 29 _ _ rfl (w.heap.size + 1 + 1) (mC { m with told := m.told ++ [m.r 0] } ba bc (.slice s0 s1 s2) a2 c2) rfl rfl 29 (mC zeroM none 0 (.slice none 0 0) none 0) HPF.out.b3 (mSize _ _ _ _ _ _) rfl (mAll _ _ _ _ _ _ _ _) ?_) | fail)
      exact bodyPost_ret (v := .tuple #[.agg (mC { m with told := m.told ++ [m.r 0] } ba bc (.slice s0 s1 s2) a2 c2), .int .i64 0]) (res_m rfl rfl (setRow_heap _ _ _ _ _ _ HPF.out.b3)) rfl (HDONE.out _ _ _ HO4.out HPF.out HT4.out.bb)
  · have xl := cell_of_block (i := 22) HT0.out.pb.b1 rfl
    go_simp
    refine hK.out _ _ hHeld (fun hHeld => ?_)
    clear hK K xl
    refine wpAnyH_ready (rs := [0, 7]) (by kernel_rfl) (by simp) ?_
    refine AllReadyH.cons rfl (fun K hK => ?_) (AllReadyH.cons rfl (fun K hK => ?_) AllReadyH.nil)
    · go_simp
      generalize hWn : World.alloc V0 _ = V1
      have hb1 : Below V0.heap.size V0 V1 := by rw [← hWn]; exact oalloc _ _
      have HG1 : Hid (V1.heap[V0.heap.size]? = some (.cells #[] 3 (0, 0))) := by unfold Hid; rw [← hWn]; exact blk_new V0 _ _
      have hg0 := HT0.out.bz
      have HT1 := Lib.hid (HT0.out.next hb1)
      refine hK.out _ _ (cell_of_block (i := 0) HT1.out.pb.b1 rfl) (fun hHeld => ?_)
      clear hK K hb1 hWn
      refine wpAnyH_ready (rs := [3, 7]) (by kernel_rfl) (by simp) ?_
      refine AllReadyH.cons rfl (fun K hK => ?_) (AllReadyH.cons rfl (fun K hK => ?_) AllReadyH.nil)
      · obtain ⟨v1, V2, happ, hown, hgr⟩ := app1 B V0.heap.size ta tc m.told V1 HG1.out hg0 (hT.next HT1.out.pb.bel) htl
        have HA := Lib.hid happ
        have HO2 := Lib.hid hown
        have HT2 := Lib.hid (HT1.out.grown hgr (fun k hk => by injection hk with hk; omega))
        clear happ hown hgr
        refine step_app_eq (by rfl) 185 (by rfl) _ _ _ _ (by rfl) _ _ (by rfl) (by rfl) HA.out ?_
        simp only [List.setIfInBounds_toArray, List.set_cons_zero, List.set_cons_succ]
        refine hK.out _ _ (cell_of_block (i := 0) HT2.out.pb.b1 rfl) (fun hHeld => ?_)
        clear hK K HA
        refine wpAnyH_ready (rs := [7]) (by kernel_rfl) (by simp) ?_
        refine AllReadyH.cons rfl (fun K hK => ?_) AllReadyH.nil
        go_simp
        generalize hWn : World.alloc V2 _ = V3
        have hb1 : Below V2.heap.size V2 V3 := by rw [← hWn]; exact oalloc _ _
        have HN3 : Hid (V3.heap[V2.heap.size]? = some (.cells #[.int .i64 (m.r 0)] 3 (0, 0))) := by unfold Hid; rw [← hWn]; exact blk_new V2 _ _
        have HT3 := Lib.hid (HT2.out.next hb1)
        have HO3 := Lib.hid (HO2.out.kept (ogbelow none hb1 (Nat.le_refl _)) (by cases v1.ownBlock <;> simp))
        refine hK.out _ _ (cell_of_block (i := 0) HT3.out.pb.b1 rfl) (fun hHeld => ?_)
        clear hK K hb1 hWn
        refine wpAnyH_ready (rs := [8]) (by kernel_rfl) (by simp) ?_
        refine AllReadyH.cons rfl (fun K hK => ?_) AllReadyH.nil
        obtain ⟨a2, c2, V4, happ, hown, hgr⟩ := app2 B v1 m.told V3 HO3.out V2.heap.size (m.r 0) HN3.out htl HT3.out.bz
        have HA := Lib.hid happ
        have HO4 := Lib.hid hown
        have HT4 := Lib.hid (HT3.out.grown hgr (fun k hk => (HO3.out.lt k hk).1))
        clear happ hown hgr
        refine step_app_eq (by rfl) 190 (by rfl) _ _ _ _ (by rfl) _ _ (by rfl) (by rfl) HA.out ?_
        simp only [List.setIfInBounds_toArray, List.set_cons_zero, List.set_cons_succ]
        refine hK.out _ _ (cell_of_block (i := 0) HT4.out.pb.b1 rfl) (fun hHeld => ?_)
        clear hK K HA
        refine take_at 9 191 (v := ?_) rfl rfl (by kernel_rfl) (by kernel_rfl) (by kernel_rfl) (fun _ _ _ h => h) rfl ?_ hHeld ?_
        rotate_left
        · intro w hSw
          go_simp
          try with_reducible rfl
        simp only [List.setIfInBounds_toArray, List.set_cons_zero, List.set_cons_succ]
        refine wpAnyH_ready (rs := [10]) (by kernel_rfl) (by simp) ?_
        refine AllReadyH.cons rfl (fun K hK => ?_) AllReadyH.nil
        have x22 := cell_of_block (i := 22) HT4.out.pb.b1 rfl
        have xf := blk_froz (i := 22) HT4.out.pb.b1
        have HPF := Lib.hid (HT4.out.pb.told (m.told ++ [m.r 0]) a2 (m.told.length + 1) c2 (by simp))
        go_simp
        refine hK.out _ _ (cell_of_block (i := 0) HPF.out.b1 rfl) (fun hHeld => ?_)
        clear hK K x22 xf
        refine wpAnyH_done (by kernel_rfl) ?_ _
        refine NoPanic.normal ?_
        clear hHeld
        go_wp2_with (first | (refine wpList_load_row rfl 29 _ rfl w.heap.size rfl 29 (mC { m with told := m.told ++ [m.r 0] } ba bc (.slice s0 s1 s2) a2 c2) (0, 0) _ HPF.out.b1 Tryd.underlying29 rfl (mSize _ _ _ _ _ _) ?_) | (refine wpList_store_row rfl 29 _ _ rfl (w.heap.size + 1 + 1) (mC { m with told := m.told ++ [m.r 0] } ba bc (.slice s0 s1 s2) a2 c2) rfl rfl 29 (mC zeroM none 0 (.slice none 0 0) none 0) HPF.out.b3 (mSize _ _ _ _ _ _) rfl (mAll _ _ _ _ _ _ _ _) ?_) | fail)
        exact bodyPost_ret (v := .tuple #[.agg (mC { m with told := m.told ++ [m.r 0] } ba bc (.slice s0 s1 s2) a2 c2), .int .i64 0]) (res_m rfl rfl (setRow_heap _ _ _ _ _ _ HPF.out.b3)) rfl (HDONE.out _ _ _ HO4.out HPF.out HT4.out.bb)
      · go_simp
        generalize hWn : World.alloc V1 _ = V2
        have hb1 : Below V1.heap.size V1 V2 := by rw [← hWn]; exact oalloc _ _
        have HN2 : Hid (V2.heap[V1.heap.size]? = some (.cells #[.int .i64 (m.r 0)] 3 (0, 0))) := by unfold Hid; rw [← hWn]; exact blk_new V1 _ _
        have HT2 := Lib.hid (HT1.out.next hb1)
        have HG2 := Lib.hid ((hb1.block _ (Array.getElem?_eq_some_iff.1 HG1.out).1).trans HG1.out)
        refine hK.out _ _ (cell_of_block (i := 0) HT2.out.pb.b1 rfl) (fun hHeld => ?_)
        clear hK K hb1 hWn
        refine wpAnyH_ready (rs := [3]) (by kernel_rfl) (by simp) ?_
        refine AllReadyH.cons rfl (fun K hK => ?_) AllReadyH.nil
        obtain ⟨v1, V3, happ, hown, hgr⟩ := app1 B V0.heap.size ta tc m.told V2 HG2.out hg0 (hT.next HT2.out.pb.bel) htl
        have HA := Lib.hid happ
        have HO3 := Lib.hid hown
        have HT3 := Lib.hid (HT2.out.grown hgr (fun k hk => by injection hk with hk; omega))
        have HN3 := Lib.hid ((hgr.block _ (Array.getElem?_eq_some_iff.1 HN2.out).1 (fun e => by injection e with e; have h1 := HN2.out; rw [e, HG2.out] at h1; simp at h1)).trans HN2.out)
        clear happ hown hgr
        refine step_app_eq (by rfl) 185 (by rfl) _ _ _ _ (by rfl) _ _ (by rfl) (by rfl) HA.out ?_
        simp only [List.setIfInBounds_toArray, List.set_cons_zero, List.set_cons_succ]
        refine hK.out _ _ (cell_of_block (i := 0) HT3.out.pb.b1 rfl) (fun hHeld => ?_)
        clear hK K HA
        refine wpAnyH_ready (rs := [8]) (by kernel_rfl) (by simp) ?_
        refine AllReadyH.cons rfl (fun K hK => ?_) AllReadyH.nil
        obtain ⟨a2, c2, V4, happ, hown, hgr⟩ := app2 B v1 m.told V3 HO3.out V1.heap.size (m.r 0) HN3.out htl HT3.out.bz
        have HA := Lib.hid happ
        have HO4 := Lib.hid hown
        have HT4 := Lib.hid (HT3.out.grown hgr (fun k hk => (HO3.out.lt k hk).1))
        clear happ hown hgr
        refine step_app_eq (by rfl) 190 (by rfl) _ _ _ _ (by rfl) _ _ (by rfl) (by rfl) HA.out ?_
        simp only [List.setIfInBounds_toArray, List.set_cons_zero, List.set_cons_succ]
        refine hK.out _ _ (cell_of_block (i := 0) HT4.out.pb.b1 rfl) (fun hHeld => ?_)
        clear hK K HA
        refine take_at 9 191 (v := ?_) rfl rfl (by kernel_rfl) (by kernel_rfl) (by kernel_rfl) (fun _ _ _ h => h) rfl ?_ hHeld ?_
        rotate_left
        · intro w hSw
          go_simp
          try with_reducible rfl
        simp only [List.setIfInBounds_toArray, List.set_cons_zero, List.set_cons_succ]
        refine wpAnyH_ready (rs := [10]) (by kernel_rfl) (by simp) ?_
        refine AllReadyH.cons rfl (fun K hK => ?_) AllReadyH.nil
        have x22 := cell_of_block (i := 22) HT4.out.pb.b1 rfl
        have xf := blk_froz (i := 22) HT4.out.pb.b1
        have HPF := Lib.hid (HT4.out.pb.told (m.told ++ [m.r 0]) a2 (m.told.length + 1) c2 (by simp))
        go_simp
        refine hK.out _ _ (cell_of_block (i := 0) HPF.out.b1 rfl) (fun hHeld => ?_)
        clear hK K x22 xf
        refine wpAnyH_done (by kernel_rfl) ?_ _
        refine NoPanic.normal ?_
        clear hHeld
        go_wp2_with (first | (refine wpList_load_row rfl 29 _ rfl w.heap.size rfl 29 (mC { m with told := m.told ++ [m.r 0] } ba bc (.slice s0 s1 s2) a2 c2) (0, 0) _ HPF.out.b1 Tryd.underlying29 rfl (mSize _ _ _ _ _ _) ?_) | (refine wpList_store_row rfl 29 _ _ rfl (w.heap.size + 1 + 1) (mC { m with told := m.told ++ [m.r 0] } ba bc (.slice s0 s1 s2) a2 c2) rfl rfl 29 (mC zeroM none 0 (.slice none 0 0) none 0) HPF.out.b3 (mSize _ _ _ _ _ _) rfl (mAll _ _ _ _ _ _ _ _) ?_) | fail)
        exact bodyPost_ret (v := .tuple #[.agg (mC { m with told := m.told ++ [m.r 0] } ba bc (.slice s0 s1 s2) a2 c2), .int .i64 0]) (res_m rfl rfl (setRow_heap _ _ _ _ _ _ HPF.out.b3)) rfl (HDONE.out _ _ _ HO4.out HPF.out HT4.out.bb)
    · go_simp
      generalize hWn : World.alloc V0 _ = V1
      have hb1 : Below V0.heap.size V0 V1 := by rw [← hWn]; exact oalloc _ _
      have HN1 : Hid (V1.heap[V0.heap.size]? = some (.cells #[.int .i64 (m.r 0)] 3 (0, 0))) := by unfold Hid; rw [← hWn]; exact blk_new V0 _ _
      have HT1 := Lib.hid (HT0.out.next hb1)
      refine hK.out _ _ (cell_of_block (i := 0) HT1.out.pb.b1 rfl) (fun hHeld => ?_)
      clear hK K hb1 hWn
      refine wpAnyH_ready (rs := [0]) (by kernel_rfl) (by simp) ?_
      refine AllReadyH.cons rfl (fun K hK => ?_) AllReadyH.nil
      go_simp
      generalize hWn : World.alloc V1 _ = V2
      have hb1 : Below V1.heap.size V1 V2 := by rw [← hWn]; exact oalloc _ _
      have HG2 : Hid (V2.heap[V1.heap.size]? = some (.cells #[] 3 (0, 0))) := by unfold Hid; rw [← hWn]; exact blk_new V1 _ _
      have hg0 := HT1.out.bz
      have HT2 := Lib.hid (HT1.out.next hb1)
      have HN2 := Lib.hid ((hb1.block _ (Array.getElem?_eq_some_iff.1 HN1.out).1).trans HN1.out)
      refine hK.out _ _ (cell_of_block (i := 0) HT2.out.pb.b1 rfl) (fun hHeld => ?_)
      clear hK K hb1 hWn
      refine wpAnyH_ready (rs := [3]) (by kernel_rfl) (by simp) ?_
      refine AllReadyH.cons rfl (fun K hK => ?_) AllReadyH.nil
      obtain ⟨v1, V3, happ, hown, hgr⟩ := app1 B V1.heap.size ta tc m.told V2 HG2.out hg0 (hT.next HT2.out.pb.bel) htl
      have HA := Lib.hid happ
      have HO3 := Lib.hid hown
      have HT3 := Lib.hid (HT2.out.grown hgr (fun k hk => by injection hk with hk; omega))
      have HN3 := Lib.hid ((hgr.block _ (Array.getElem?_eq_some_iff.1 HN2.out).1 (fun e => by injection e with e; have h1 := HN2.out; rw [e, HG2.out] at h1; simp at h1)).trans HN2.out)
      clear happ hown hgr
      refine step_app_eq (by rfl) 185 (by rfl) _ _ _ _ (by rfl) _ _ (by rfl) (by rfl) HA.out ?_
      simp only [List.setIfInBounds_toArray, List.set_cons_zero, List.set_cons_succ]
      refine hK.out _ _ (cell_of_block (i := 0) HT3.out.pb.b1 rfl) (fun hHeld => ?_)
      clear hK K HA
      refine wpAnyH_ready (rs := [8]) (by kernel_rfl) (by simp) ?_
      refine AllReadyH.cons rfl (fun K hK => ?_) AllReadyH.nil
      obtain ⟨a2, c2, V4, happ, hown, hgr⟩ := app2 B v1 m.told V3 HO3.out V0.heap.size (m.r 0) HN3.out htl HT3.out.bz
      have HA := Lib.hid happ
      have HO4 := Lib.hid hown
      have HT4 := Lib.hid (HT3.out.grown hgr (fun k hk => (HO3.out.lt k hk).1))
      clear happ hown hgr
      refine step_app_eq (by rfl) 190 (by rfl) _ _ _ _ (by rfl) _ _ (by rfl) (by rfl) HA.out ?_
      simp only [List.setIfInBounds_toArray, List.set_cons_zero, List.set_cons_succ]
      refine hK.out _ _ (cell_of_block (i := 0) HT4.out.pb.b1 rfl) (fun hHeld => ?_)
      clear hK K HA
      refine take_at 9 191 (v := ?_) rfl rfl (by kernel_rfl) (by kernel_rfl) (by kernel_rfl) (fun _ _ _ h => h) rfl ?_ hHeld ?_
      rotate_left
      · intro w hSw
        go_simp
        try with_reducible rfl
      simp only [List.setIfInBounds_toArray, List.set_cons_zero, List.set_cons_succ]
      refine wpAnyH_ready (rs := [10]) (by kernel_rfl) (by simp) ?_
      refine AllReadyH.cons rfl (fun K hK => ?_) AllReadyH.nil
      have x22 := cell_of_block (i := 22) HT4.out.pb.b1 rfl
      have xf := blk_froz (i := 22) HT4.out.pb.b1
      have HPF := Lib.hid (HT4.out.pb.told (m.told ++ [m.r 0]) a2 (m.told.length + 1) c2 (by simp))
      go_simp
      refine hK.out _ _ (cell_of_block (i := 0) HPF.out.b1 rfl) (fun hHeld => ?_)
      clear hK K x22 xf
      refine wpAnyH_done (by kernel_rfl) ?_ _
      refine NoPanic.normal ?_
      clear hHeld
      go_wp2_with (first | (refine wpList_load_row rfl 29 _ rfl w.heap.size rfl 29 (mC { m with told := m.told ++ [m.r 0] } ba bc (.slice s0 s1 s2) a2 c2) (0, 0) _ HPF.out.b1 Tryd.underlying29 rfl (mSize _ _ _ _ _ _) ?_) | (refine wpList_store_row rfl 29 _ _ rfl (w.heap.size + 1 + 1) (mC { m with told := m.told ++ [m.r 0] } ba bc (.slice s0 s1 s2) a2 c2) rfl rfl 29 (mC zeroM none 0 (.slice none 0 0) none 0) HPF.out.b3 (mSize _ _ _ _ _ _) rfl (mAll _ _ _ _ _ _ _ _) ?_) | fail)
      exact bodyPost_ret (v := .tuple #[.agg (mC { m with told := m.told ++ [m.r 0] } ba bc (.slice s0 s1 s2) a2 c2), .int .i64 0]) (res_m rfl rfl (setRow_heap _ _ _ _ _ _ HPF.out.b3)) rfl (HDONE.out _ _ _ HO4.out HPF.out HT4.out.bb)
  · go_simp
    generalize hWn : World.alloc V0 _ = V1
    have hb1 : Below V0.heap.size V0 V1 := by rw [← hWn]; exact oalloc _ _
    have HN1 : Hid (V1.heap[V0.heap.size]? = some (.cells #[.int .i64 (m.r 0)] 3 (0, 0))) := by unfold Hid; rw [← hWn]; exact blk_new V0 _ _
    have HT1 := Lib.hid (HT0.out.next hb1)
    refine hK.out _ _ (cell_of_block (i := 0) HT1.out.pb.b1 rfl) (fun hHeld => ?_)
    clear hK K hb1 hWn
    refine wpAnyH_ready (rs := [0, 2]) (by kernel_rfl) (by simp) ?_
    refine AllReadyH.cons rfl (fun K hK => ?_) (AllReadyH.cons rfl (fun K hK => ?_) AllReadyH.nil)
    · go_simp
      generalize hWn : World.alloc V1 _ = V2
      have hb1 : Below V1.heap.size V1 V2 := by rw [← hWn]; exact oalloc _ _
      have HG2 : Hid (V2.heap[V1.heap.size]? = some (.cells #[] 3 (0, 0))) := by unfold Hid; rw [← hWn]; exact blk_new V1 _ _
      have hg0 := HT1.out.bz
      have HT2 := Lib.hid (HT1.out.next hb1)
      have HN2 := Lib.hid ((hb1.block _ (Array.getElem?_eq_some_iff.1 HN1.out).1).trans HN1.out)
      refine hK.out _ _ (cell_of_block (i := 0) HT2.out.pb.b1 rfl) (fun hHeld => ?_)
      clear hK K hb1 hWn
      refine wpAnyH_ready (rs := [2]) (by kernel_rfl) (by simp) ?_
      refine AllReadyH.cons rfl (fun K hK => ?_) AllReadyH.nil
      have xl := cell_of_block (i := 22) HT2.out.pb.b1 rfl
      go_simp
      refine hK.out _ _ hHeld (fun hHeld => ?_)
      clear hK K xl
      refine wpAnyH_ready (rs := [3]) (by kernel_rfl) (by simp) ?_
      refine AllReadyH.cons rfl (fun K hK => ?_) AllReadyH.nil
      obtain ⟨v1, V3, happ, hown, hgr⟩ := app1 B V1.heap.size ta tc m.told V2 HG2.out hg0 (hT.next HT2.out.pb.bel) htl
      have HA := Lib.hid happ
      have HO3 := Lib.hid hown
      have HT3 := Lib.hid (HT2.out.grown hgr (fun k hk => by injection hk with hk; omega))
      have HN3 := Lib.hid ((hgr.block _ (Array.getElem?_eq_some_iff.1 HN2.out).1 (fun e => by injection e with e; have h1 := HN2.out; rw [e, HG2.out] at h1; simp at h1)).trans HN2.out)
      clear happ hown hgr
      refine step_app_eq (by rfl) 185 (by rfl) _ _ _ _ (by rfl) _ _ (by rfl) (by rfl) HA.out ?_
      simp only [List.setIfInBounds_toArray, List.set_cons_zero, List.set_cons_succ]
      refine hK.out _ _ (cell_of_block (i := 0) HT3.out.pb.b1 rfl) (fun hHeld => ?_)
      clear hK K HA
      refine wpAnyH_ready (rs := [8]) (by kernel_rfl) (by simp) ?_
      refine AllReadyH.cons rfl (fun K hK => ?_) AllReadyH.nil
      obtain ⟨a2, c2, V4, happ, hown, hgr⟩ := app2 B v1 m.told V3 HO3.out V0.heap.size (m.r 0) HN3.out htl HT3.out.bz
      have HA := Lib.hid happ
      have HO4 := Lib.hid hown
      have HT4 := Lib.hid (HT3.out.grown hgr (fun k hk => (HO3.out.lt k hk).1))
      clear happ hown hgr
      refine step_app_eq (by rfl) 190 (by rfl) _ _ _ _ (by rfl) _ _ (by rfl) (by rfl) HA.out ?_
      simp only [List.setIfInBounds_toArray, List.set_cons_zero, List.set_cons_succ]
      refine hK.out _ _ (cell_of_block (i := 0) HT4.out.pb.b1 rfl) (fun hHeld => ?_)
      clear hK K HA
      refine take_at 9 191 (v := ?_) rfl rfl (by kernel_rfl) (by kernel_rfl) (by kernel_rfl) (fun _ _ _ h => h) rfl ?_ hHeld ?_
      rotate_left
      · intro w hSw
        go_simp
        try with_reducible rfl
      simp only [List.setIfInBounds_toArray, List.set_cons_zero, List.set_cons_succ]
      refine wpAnyH_ready (rs := [10]) (by kernel_rfl) (by simp) ?_
      refine AllReadyH.cons rfl (fun K hK => ?_) AllReadyH.nil
      have x22 := cell_of_block (i := 22) HT4.out.pb.b1 rfl
      have xf := blk_froz (i := 22) HT4.out.pb.b1
      have HPF := Lib.hid (HT4.out.pb.told (m.told ++ [m.r 0]) a2 (m.told.length + 1) c2 (by simp))
      go_simp
      refine hK.out _ _ (cell_of_block (i := 0) HPF.out.b1 rfl) (fun hHeld => ?_)
      clear hK K x22 xf
      refine wpAnyH_done (by kernel_rfl) ?_ _
      refine NoPanic.normal ?_
      clear hHeld
      go_wp2_with (first | (refine wpList_load_row rfl 29 _ rfl w.heap.size rfl 29 (mC { m with told := m.told ++ [m.r 0] } ba bc (.slice s0 s1 s2) a2 c2) (0, 0) _ HPF.out.b1 Tryd.underlying29 rfl (mSize _ _ _ _ _ _) ?_) | (refine wpList_store_row rfl 29 _ _ rfl (w.heap.size + 1 + 1) (mC { m with told := m.told ++ [m.r 0] } ba bc (.slice s0 s1 s2) a2 c2) rfl rfl 29 (mC zeroM none 0 (.slice none 0 0) none 0) HPF.out.b3 (mSize _ _ _ _ _ _) rfl (mAll _ _ _ _ _ _ _ _) ?_) | fail)
      exact bodyPost_ret (v := .tuple #[.agg (mC { m with told := m.told ++ [m.r 0] } ba bc (.slice s0 s1 s2) a2 c2), .int .i64 0]) (res_m rfl rfl (setRow_heap _ _ _ _ _ _ HPF.out.b3)) rfl (HDONE.out _ _ _ HO4.out HPF.out HT4.out.bb)
    · have xl := cell_of_block (i := 22) HT1.out.pb.b1 rfl
      go_simp
      refine hK.out _ _ hHeld (fun hHeld => ?_)
      clear hK K xl
      refine wpAnyH_ready (rs := [0]) (by kernel_rfl) (by simp) ?_
      refine AllReadyH.cons rfl (fun K hK => ?_) AllReadyH.nil
      go_simp
      generalize hWn : World.alloc V1 _ = V2
      have hb1 : Below V1.heap.size V1 V2 := by rw [← hWn]; exact oalloc _ _
      have HG2 : Hid (V2.heap[V1.heap.size]? = some (.cells #[] 3 (0, 0))) := by unfold Hid; rw [← hWn]; exact blk_new V1 _ _
      have hg0 := HT1.out.bz
      have HT2 := Lib.hid (HT1.out.next hb1)
      have HN2 := Lib.hid ((hb1.block _ (Array.getElem?_eq_some_iff.1 HN1.out).1).trans HN1.out)
      refine hK.out _ _ (cell_of_block (i := 0) HT2.out.pb.b1 rfl) (fun hHeld => ?_)
      clear hK K hb1 hWn
      refine wpAnyH_ready (rs := [3]) (by kernel_rfl) (by simp) ?_
      refine AllReadyH.cons rfl (fun K hK => ?_) AllReadyH.nil
      obtain ⟨v1, V3, happ, hown, hgr⟩ := app1 B V1.heap.size ta tc m.told V2 HG2.out hg0 (hT.next HT2.out.pb.bel) htl
      have HA := Lib.hid happ
      have HO3 := Lib.hid hown
      have HT3 := Lib.hid (HT2.out.grown hgr (fun k hk => by injection hk with hk; omega))
      have HN3 := Lib.hid ((hgr.block _ (Array.getElem?_eq_some_iff.1 HN2.out).1 (fun e => by injection e with e; have h1 := HN2.out; rw [e, HG2.out] at h1; simp at h1)).trans HN2.out)
      clear happ hown hgr
      refine step_app_eq (by rfl) 185 (by rfl) _ _ _ _ (by rfl) _ _ (by rfl) (by rfl) HA.out ?_
      simp only [List.setIfInBounds_toArray, List.set_cons_zero, List.set_cons_succ]
      refine hK.out _ _ (cell_of_block (i := 0) HT3.out.pb.b1 rfl) (fun hHeld => ?_)
      clear hK K HA
      refine wpAnyH_ready (rs := [8]) (by kernel_rfl) (by simp) ?_
      refine AllReadyH.cons rfl (fun K hK => ?_) AllReadyH.nil
      obtain ⟨a2, c2, V4, happ, hown, hgr⟩ := app2 B v1 m.told V3 HO3.out V0.heap.size (m.r 0) HN3.out htl HT3.out.bz
      have HA := Lib.hid happ
      have HO4 := Lib.hid hown
      have HT4 := Lib.hid (HT3.out.grown hgr (fun k hk => (HO3.out.lt k hk).1))
      clear happ hown hgr
      refine step_app_eq (by rfl) 190 (by rfl) _ _ _ _ (by rfl) _ _ (by rfl) (by rfl) HA.out ?_
      simp only [List.setIfInBounds_toArray, List.set_cons_zero, List.set_cons_succ]
      refine hK.out _ _ (cell_of_block (i := 0) HT4.out.pb.b1 rfl) (fun hHeld => ?_)
      clear hK K HA
      refine take_at 9 191 (v := ?_) rfl rfl (by kernel_rfl) (by kernel_rfl) (by kernel_rfl) (fun _ _ _ h => h) rfl ?_ hHeld ?_
      rotate_left
      · intro w hSw
        go_simp
        try with_reducible rfl
      simp only [List.setIfInBounds_toArray, List.set_cons_zero, List.set_cons_succ]
      refine wpAnyH_ready (rs := [10]) (by kernel_rfl) (by simp) ?_
      refine AllReadyH.cons rfl (fun K hK => ?_) AllReadyH.nil
      have x22 := cell_of_block (i := 22) HT4.out.pb.b1 rfl
      have xf := blk_froz (i := 22) HT4.out.pb.b1
      have HPF := Lib.hid (HT4.out.pb.told (m.told ++ [m.r 0]) a2 (m.told.length + 1) c2 (by simp))
      go_simp
      refine hK.out _ _ (cell_of_block (i := 0) HPF.out.b1 rfl) (fun hHeld => ?_)
      clear hK K x22 xf
      refine wpAnyH_done (by kernel_rfl) ?_ _
      refine NoPanic.normal ?_
      clear hHeld
      go_wp2_with (first | (refine wpList_load_row rfl 29 _ rfl w.heap.size rfl 29 (mC { m with told := m.told ++ [m.r 0] } ba bc (.slice s0 s1 s2) a2 c2) (0, 0) _ HPF.out.b1 Tryd.underlying29 rfl (mSize _ _ _ _ _ _) ?_) | (refine wpList_store_row rfl 29 _ _ rfl (w.heap.size + 1 + 1) (mC { m with told := m.told ++ [m.r 0] } ba bc (.slice s0 s1 s2) a2 c2) rfl rfl 29 (mC zeroM none 0 (.slice none 0 0) none 0) HPF.out.b3 (mSize _ _ _ _ _ _) rfl (mAll _ _ _ _ _ _ _ _) ?_) | fail)
      exact bodyPost_ret (v := .tuple #[.agg (mC { m with told := m.told ++ [m.r 0] } ba bc (.slice s0 s1 s2) a2 c2), .int .i64 0]) (res_m rfl rfl (setRow_heap _ _ _ _ _ _ HPF.out.b3)) rfl (HDONE.out _ _ _ HO4.out HPF.out HT4.out.bb)

end Go.Proofs.YtabepbaldadmgaaDoor
