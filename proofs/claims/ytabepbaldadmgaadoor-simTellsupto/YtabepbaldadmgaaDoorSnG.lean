/- The program's own sim: do: what makes a register of numbers. -/
import Derived.Test.YtabepbaldadmgaaDoorPut20
import Derived.Test.YtabepbaldadmgaaDoorPut9
namespace Go.Proofs.YtabepbaldadmgaaDoor
open Go.RowKit Isa

theorem setR_same (m : Ma) (k : Nat) : setR m k (m.r k) = m := by
  unfold setR
  have : (fun j => if j = k then m.r k else m.r j) = m.r := by
    funext j
    by_cases h : j = k
    · rw [if_pos h, h]
    · rw [if_neg h]
  rw [this]
theorem a32_id {m : Ma} {n : Int} (h0 : -2147483648 ≤ m.r n.toNat) (h1 : m.r n.toNat ≤ 2147483647) : a32 m n = m.r n.toNat := w32_id h0 h1
theorem made_plain (m : Ma) (op n mm imm at' : Int) (h : op = 1 ∨ (3 ≤ op ∧ op ≤ 10)) (rn0 : -2147483648 ≤ m.r n.toNat) (rn1 : m.r n.toNat ≤ 2147483647) (rm0 : -2147483648 ≤ m.r mm.toNat) (rm1 : m.r mm.toNat ≤ 2147483647) : plainM m op n mm imm at' = setR m n.toNat (madeV op imm (m.r n.toNat) (m.r mm.toNat)) := by
  have e1 := a32_id (m := m) (n := n) rn0 rn1
  have e2 := a32_id (m := m) (n := mm) rm0 rm1
  obtain rfl | rfl | rfl | rfl | rfl | rfl | rfl | rfl | rfl : op = 1 ∨ op = 3 ∨ op = 4 ∨ op = 5 ∨ op = 6 ∨ op = 7 ∨ op = 8 ∨ op = 9 ∨ op = 10 := by omega
  · exact (setR_same m n.toNat).symm
  all_goals
    unfold plainM madeV
    simp [e1, e2]

set_option maxHeartbeats 8000000 in
set_option maxRecDepth 100000 in
theorem do_made (K g : Nat) (m : Ma) (gb bc : Nat) (s0 : Option Addr) (s1 s2 : Nat) (ta : Option Addr) (tc : Nat) (op n mm imm at' : Int) (W : World) (h : MR K g m gb bc (.slice s0 s1 s2) ta tc W) (hM : MOk m) (hr : ∀ k, in32 (m.r k)) (ha0 : 0 ≤ at') (ha1 : at' ≤ 1000000000000) (hi0 : -10000 ≤ imm) (hi1 : imm ≤ 10000) (hn0 : 0 ≤ n) (hn1 : n ≤ 15) (hm0 : 0 ≤ mm) (hm1 : mm ≤ 15) (hop : op = 1 ∨ (3 ≤ op ∧ op ≤ 10)) :
    Calls Tryd.prog 35 #[.pointer (some ⟨g, 0, none⟩), .agg #[.int .i64 op, .int .i64 n, .int .i64 mm, .int .i64 imm], .int .i64 at'] W fun e W' => e = .returned (.int .i64 (plainE m op n mm imm at')) ∧ PP K K g gb bc (.slice s0 s1 s2) (plainM m op n mm imm at') W W' := by
  have hused := And.intro hM (And.intro ha0 (And.intro ha1 (And.intro hi0 (And.intro hi1 (And.intro hm0 hm1)))))
  clear hused
  obtain ⟨V, hV⟩ : ∃ V, V = W.alloc (.cells #[.int .i64 op, .int .i64 n, .int .i64 mm, .int .i64 imm] 45) := ⟨_, rfl⟩
  have hb : Below W.heap.size W V := by rw [hV]; exact oalloc _ _
  have kV : V.heap[W.heap.size]? = some (.cells #[.int .i64 op, .int .i64 n, .int .i64 mm, .int .i64 imm] 45 (0, 0)) := by rw [hV]; exact blk_new _ _ _
  have c0 := cell_of_block (i := 0) kV rfl
  have hgW : g < W.heap.size := h.lt
  have hgne : W.heap.size ≠ g := by omega
  have hn16 : n.toNat < 16 := by omega
  have hm16 : mm.toNat < 16 := by omega
  have hn2 : n < 16 := by omega
  have hm2 : mm < 16 := by omega
  obtain ⟨rn0, rn1⟩ := hr n.toNat
  obtain ⟨rm0, rm1⟩ := hr mm.toNat
  have HV := Lib.hid hV.symm
  have HK0 : Hid (V.drew.heap[W.heap.size]? = some (.cells #[.int .i64 op, .int .i64 n, .int .i64 mm, .int .i64 imm] 45 (0, 0))) := kV
  have HB0 := Lib.hid hb.drew
  have HM0 := Lib.hid (h.next hb.drew)
  have HW := Lib.hid h
  have HC : Hid (∀ X, Calls Tryd.prog 50 #[.agg #[.int .i64 op, .int .i64 n, .int .i64 mm, .int .i64 imm], .int .i64 (m.r n.toNat), .int .i64 (m.r mm.toNat)] X fun e w' => e = .returned (.int .i64 (madeV op imm (m.r n.toNat) (m.r mm.toNat))) ∧ Below X.heap.size X w') := fun X => made_any op n mm imm _ _ X hop hi0 hi1 rn0 rn1 rm0 rm1
  have HE : Hid (plainE m op n mm imm at' = 0) := by
    unfold Hid plainE
    rw [if_neg (by omega)]
  have HMM : Hid (plainM m op n mm imm at' = setR m n.toNat (madeV op imm (m.r n.toNat) (m.r mm.toNat))) := made_plain m op n mm imm at' hop rn0 rn1 rm0 rm1
  have ho1 : 1 ≤ op := by omega
  have ho2 : op ≤ 10 := by omega
  clear hV hb kV h hM hr
  go_enter Tryd.func35, Tryd.ntmps35
  go_upto_region 1 with fail
  rw [HV.out]
  clear HV
  go_upto_region 2 with fail
  refine wp_region_noPanic ?_
  refine wp_region_held_drew (S := fun w' => w'.heap[W.heap.size]? = some (.cells #[.int .i64 op, .int .i64 n, .int .i64 mm, .int .i64 imm] 45 (0, 0))) (by kernel_rfl) HK0.out (fun hHeld => ?_)
  generalize V.drew = V0 at *
  clear HK0 c0
  refine take_at 0 9 (v := ?_) rfl rfl (by kernel_rfl) (by kernel_rfl) (by kernel_rfl) (fun _ _ _ h => h) rfl ?_ hHeld ?_
  rotate_left
  · intro w hSw
    go_simp
    try with_reducible rfl
  simp only [List.setIfInBounds_toArray, List.set_cons_zero, List.set_cons_succ]
  refine take_at 1 10 (v := ?_) rfl rfl (by kernel_rfl) (by kernel_rfl) (by kernel_rfl) (fun _ _ _ h => h) rfl ?_ hHeld ?_
  rotate_left
  · intro w hSw
    go_simp
    try with_reducible rfl
  simp only [List.setIfInBounds_toArray, List.set_cons_zero, List.set_cons_succ]
  refine take_at 2 11 (v := ?_) rfl rfl (by kernel_rfl) (by kernel_rfl) (by kernel_rfl) (fun _ _ _ h => h) rfl ?_ hHeld ?_
  rotate_left
  · intro w hSw
    have y := cell_of_block (i := 1) hSw rfl
    go_simp
    try with_reducible rfl
  simp only [List.setIfInBounds_toArray, List.set_cons_zero, List.set_cons_succ]
  refine take_at 3 12 (v := ?_) rfl rfl (by kernel_rfl) (by kernel_rfl) (by kernel_rfl) (fun _ _ _ h => h) rfl ?_ hHeld ?_
  rotate_left
  · intro w hSw
    have y0 := cell_of_block (i := 0) hSw rfl
    have y1 := cell_of_block (i := 1) hSw rfl
    have y2 := cell_of_block (i := 2) hSw rfl
    have y3 := cell_of_block (i := 3) hSw rfl
    go_simp
    try with_reducible rfl
  simp only [List.setIfInBounds_toArray, List.set_cons_zero, List.set_cons_succ]
  refine take_at 4 13 (v := ?_) rfl rfl (by kernel_rfl) (by kernel_rfl) (by kernel_rfl) (fun _ _ _ h => h) rfl ?_ hHeld ?_
  rotate_left
  · intro w hSw
    go_simp
    try with_reducible rfl
  simp only [List.setIfInBounds_toArray, List.set_cons_zero, List.set_cons_succ]
  refine take_at 5 14 (v := ?_) rfl rfl (by kernel_rfl) (by kernel_rfl) (by kernel_rfl) (fun _ _ _ h => h) rfl ?_ hHeld ?_
  rotate_left
  · intro w hSw
    go_simp
    try with_reducible rfl
  simp only [List.setIfInBounds_toArray, List.set_cons_zero, List.set_cons_succ]
  refine take_at 6 15 (v := ?_) rfl rfl (by kernel_rfl) (by kernel_rfl) (by kernel_rfl) (fun _ _ _ h => h) rfl ?_ hHeld ?_
  rotate_left
  · intro w hSw
    have y := cell_of_block (i := 1) hSw rfl
    go_simp
    try with_reducible rfl
  simp only [List.setIfInBounds_toArray, List.set_cons_zero, List.set_cons_succ]
  refine take_at 7 16 (v := ?_) rfl rfl (by kernel_rfl) (by kernel_rfl) (by kernel_rfl) (fun _ _ _ h => h) rfl ?_ hHeld ?_
  rotate_left
  · intro w hSw
    go_simp
    try with_reducible rfl
  simp only [List.setIfInBounds_toArray, List.set_cons_zero, List.set_cons_succ]
  refine take_at 8 17 (v := ?_) rfl rfl (by kernel_rfl) (by kernel_rfl) (by kernel_rfl) (fun _ _ _ h => h) rfl ?_ hHeld ?_
  rotate_left
  · intro w hSw
    go_simp
    try with_reducible rfl
  simp only [List.setIfInBounds_toArray, List.set_cons_zero, List.set_cons_succ]
  refine take_at 9 18 (v := ?_) rfl rfl (by kernel_rfl) (by kernel_rfl) (by kernel_rfl) (fun _ _ _ h => h) rfl ?_ hHeld ?_
  rotate_left
  · intro w hSw
    go_simp
    try with_reducible rfl
  simp only [List.setIfInBounds_toArray, List.set_cons_zero, List.set_cons_succ]
  refine take_at 11 20 (v := ?_) rfl rfl (by kernel_rfl) (by kernel_rfl) (by kernel_rfl) (fun _ _ _ h => h) rfl ?_ hHeld ?_
  rotate_left
  · intro w hSw
    go_simp
    try with_reducible rfl
  simp only [List.setIfInBounds_toArray, List.set_cons_zero, List.set_cons_succ]
  refine take_at 12 21 (v := ?_) rfl rfl (by kernel_rfl) (by kernel_rfl) (by kernel_rfl) (fun _ _ _ h => h) rfl ?_ hHeld ?_
  rotate_left
  · intro w hSw
    go_simp
    try with_reducible rfl
  simp only [List.setIfInBounds_toArray, List.set_cons_zero, List.set_cons_succ]
  refine take_at 13 22 (v := ?_) rfl rfl (by kernel_rfl) (by kernel_rfl) (by kernel_rfl) (fun _ _ _ h => h) rfl ?_ hHeld ?_
  rotate_left
  · intro w hSw
    have y := cell_of_block (i := 2) hSw rfl
    go_simp
    try with_reducible rfl
  simp only [List.setIfInBounds_toArray, List.set_cons_zero, List.set_cons_succ]
  refine take_at 14 23 (v := ?_) rfl rfl (by kernel_rfl) (by kernel_rfl) (by kernel_rfl) (fun _ _ _ h => h) rfl ?_ hHeld ?_
  rotate_left
  · intro w hSw
    go_simp
    try with_reducible rfl
  simp only [List.setIfInBounds_toArray, List.set_cons_zero, List.set_cons_succ]
  refine take_at 15 24 (v := ?_) rfl rfl (by kernel_rfl) (by kernel_rfl) (by kernel_rfl) (fun _ _ _ h => h) rfl ?_ hHeld ?_
  rotate_left
  · intro w hSw
    go_simp
    try with_reducible rfl
  simp only [List.setIfInBounds_toArray, List.set_cons_zero, List.set_cons_succ]
  refine take_at 16 25 (v := ?_) rfl rfl (by kernel_rfl) (by kernel_rfl) (by kernel_rfl) (fun _ _ _ h => h) rfl ?_ hHeld ?_
  rotate_left
  · intro w hSw
    go_simp
    try with_reducible rfl
  simp only [List.setIfInBounds_toArray, List.set_cons_zero, List.set_cons_succ]
  refine take_at 19 28 (v := ?_) rfl rfl (by kernel_rfl) (by kernel_rfl) (by kernel_rfl) (fun _ _ _ h => h) rfl ?_ hHeld ?_
  rotate_left
  · intro w hSw
    go_simp
    try with_reducible rfl
  simp only [List.setIfInBounds_toArray, List.set_cons_zero, List.set_cons_succ]
  refine take_at 20 29 (v := ?_) rfl rfl (by kernel_rfl) (by kernel_rfl) (by kernel_rfl) (fun _ _ _ h => h) rfl ?_ hHeld ?_
  rotate_left
  · intro w hSw
    go_simp
    try with_reducible rfl
  simp only [List.setIfInBounds_toArray, List.set_cons_zero, List.set_cons_succ]
  refine wpAnyH_ready (rs := [10, 17]) (by kernel_rfl) (by simp) ?_
  refine AllReadyH.cons rfl (fun K hK => ?_) (AllReadyH.cons rfl (fun K hK => ?_) AllReadyH.nil)
  · have xl := HM0.out.rn n.toNat hn16
    go_simp
    refine hK.out _ _ hHeld (fun hHeld => ?_)
    clear hK K xl
    refine wpAnyH_ready (rs := [17]) (by kernel_rfl) (by simp) ?_
    refine AllReadyH.cons rfl (fun K hK => ?_) AllReadyH.nil
    have xl := HM0.out.rn mm.toNat hm16
    go_simp
    refine hK.out _ _ hHeld (fun hHeld => ?_)
    clear hK K xl
    refine wpAnyH_ready (rs := [18]) (by kernel_rfl) (by simp) ?_
    refine AllReadyH.cons rfl (fun K hK => ?_) AllReadyH.nil
    go_simp
    refine (HC.out V0).mono ?_
    rintro e V1 ⟨rfl, hb1⟩
    have hH1 := (hb1.block _ (Array.getElem?_eq_some_iff.1 hHeld).1).trans hHeld
    have HM1 := Lib.hid (HM0.out.next hb1)
    have HB1 := Lib.hid (HB0.out.trans (hb1.mono HB0.out.size))
    refine hK.out _ _ hH1 (fun hHeld => ?_)
    clear hK K hb1 hH1 HM0 HB0
    refine take_at 21 30 (v := ?_) rfl rfl (by kernel_rfl) (by kernel_rfl) (by kernel_rfl) (fun _ _ _ h => h) rfl ?_ hHeld ?_
    rotate_left
    · intro w hSw
      go_simp
      try with_reducible rfl
    simp only [List.setIfInBounds_toArray, List.set_cons_zero, List.set_cons_succ]
    refine wpAnyH_ready (rs := [22]) (by kernel_rfl) (by simp) ?_
    refine AllReadyH.cons rfl (fun K hK => ?_) AllReadyH.nil
    have xs := HM1.out.rn n.toNat hn16
    have xf := HM1.out.fz n.toNat
    go_simp
    refine hK.out _ _ (by show (World.setCell V1 ⟨g, n.toNat, none⟩ _).heap[W.heap.size]? = _; rw [Below.heap_setCell _ _ _ _ (by exact hgne)]; exact hHeld) (fun hHeld => ?_)
    clear hK K xs xf
    refine wpAnyH_done (by kernel_rfl) ?_ _
    refine NoPanic.normal ?_
    go_wp2
    go_ret
    refine ⟨by rw [HE.out]; rfl, ?_⟩
    rw [HMM.out]
    exact (PP.of HW.out HB1.out HW.out.kz).reg n.toNat hn16 _
  · have xl := HM0.out.rn mm.toNat hm16
    go_simp
    refine hK.out _ _ hHeld (fun hHeld => ?_)
    clear hK K xl
    refine wpAnyH_ready (rs := [10]) (by kernel_rfl) (by simp) ?_
    refine AllReadyH.cons rfl (fun K hK => ?_) AllReadyH.nil
    have xl := HM0.out.rn n.toNat hn16
    go_simp
    refine hK.out _ _ hHeld (fun hHeld => ?_)
    clear hK K xl
    refine wpAnyH_ready (rs := [18]) (by kernel_rfl) (by simp) ?_
    refine AllReadyH.cons rfl (fun K hK => ?_) AllReadyH.nil
    go_simp
    refine (HC.out V0).mono ?_
    rintro e V1 ⟨rfl, hb1⟩
    have hH1 := (hb1.block _ (Array.getElem?_eq_some_iff.1 hHeld).1).trans hHeld
    have HM1 := Lib.hid (HM0.out.next hb1)
    have HB1 := Lib.hid (HB0.out.trans (hb1.mono HB0.out.size))
    refine hK.out _ _ hH1 (fun hHeld => ?_)
    clear hK K hb1 hH1 HM0 HB0
    refine take_at 21 30 (v := ?_) rfl rfl (by kernel_rfl) (by kernel_rfl) (by kernel_rfl) (fun _ _ _ h => h) rfl ?_ hHeld ?_
    rotate_left
    · intro w hSw
      go_simp
      try with_reducible rfl
    simp only [List.setIfInBounds_toArray, List.set_cons_zero, List.set_cons_succ]
    refine wpAnyH_ready (rs := [22]) (by kernel_rfl) (by simp) ?_
    refine AllReadyH.cons rfl (fun K hK => ?_) AllReadyH.nil
    have xs := HM1.out.rn n.toNat hn16
    have xf := HM1.out.fz n.toNat
    go_simp
    refine hK.out _ _ (by show (World.setCell V1 ⟨g, n.toNat, none⟩ _).heap[W.heap.size]? = _; rw [Below.heap_setCell _ _ _ _ (by exact hgne)]; exact hHeld) (fun hHeld => ?_)
    clear hK K xs xf
    refine wpAnyH_done (by kernel_rfl) ?_ _
    refine NoPanic.normal ?_
    go_wp2
    go_ret
    refine ⟨by rw [HE.out]; rfl, ?_⟩
    rw [HMM.out]
    exact (PP.of HW.out HB1.out HW.out.kz).reg n.toNat hn16 _

end Go.Proofs.YtabepbaldadmgaaDoor
