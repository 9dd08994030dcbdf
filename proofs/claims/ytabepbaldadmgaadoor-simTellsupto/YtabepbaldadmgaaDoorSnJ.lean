/- The program's own sim: do: what moves one register. -/
import Derived.Test.YtabepbaldadmgaaDoorSnH
namespace Go.Proofs.YtabepbaldadmgaaDoor
open Go.RowKit Isa

set_option maxHeartbeats 8000000 in
set_option maxRecDepth 100000 in
theorem do_h14 (K g : Nat) (m : Ma) (gb bc : Nat) (s0 : Option Addr) (s1 s2 : Nat) (ta : Option Addr) (tc : Nat) (op n mm imm at' : Int) (W : World) (h : MR K g m gb bc (.slice s0 s1 s2) ta tc W) (hM : MOk m) (hr : ∀ k, in32 (m.r k)) (ha0 : 0 ≤ at') (ha1 : at' ≤ 1000000000000) (hi0 : -10000 ≤ imm) (hi1 : imm ≤ 10000) (hn0 : 0 ≤ n) (hn1 : n ≤ 15) (hm0 : 0 ≤ mm) (hm1 : mm ≤ 15) (hop : op = 14 ∨ op = 15 ∨ op = 16) (hv : op = 14) :
    Calls Tryd.prog 35 #[.pointer (some ⟨g, 0, none⟩), .agg #[.int .i64 op, .int .i64 n, .int .i64 mm, .int .i64 imm], .int .i64 at'] W fun e W' => e = .returned (.int .i64 (plainE m op n mm imm at')) ∧ PP K K g gb bc (.slice s0 s1 s2) (plainM m op n mm imm at') W W' := by
  have hused := And.intro hM (And.intro ha0 (And.intro ha1 (And.intro hi0 (And.intro hi1 (And.intro hm0 hm1)))))
  clear hused
  obtain ⟨V, hV⟩ : ∃ V, V = W.alloc (.cells #[.int .i64 op, .int .i64 n, .int .i64 mm, .int .i64 imm] 45) := ⟨_, rfl⟩
  have hb : Below W.heap.size W V := by rw [hV]; exact oalloc _ _
  have kV : V.heap[W.heap.size]? = some (.cells #[.int .i64 op, .int .i64 n, .int .i64 mm, .int .i64 imm] 45 (0, 0)) := by rw [hV]; exact blk_new _ _ _
  have c0 := cell_of_block (i := 0) kV rfl
  have hgW : g < W.heap.size := h.lt
  have hgne : W.heap.size ≠ g := by omega
  have hn16 : n.toNat < 16 := by omega
  have hm16 : mm.toNat < 16 := by omega
  have hn2 : n < 16 := by omega
  have hm2 : mm < 16 := by omega
  obtain ⟨rn0, rn1⟩ := hr n.toNat
  obtain ⟨rm0, rm1⟩ := hr mm.toNat
  have HV := Lib.hid hV.symm
  have HK0 : Hid (V.drew.heap[W.heap.size]? = some (.cells #[.int .i64 op, .int .i64 n, .int .i64 mm, .int .i64 imm] 45 (0, 0))) := kV
  have HB0 := Lib.hid hb.drew
  have HM0 := Lib.hid (h.next hb.drew)
  have HW := Lib.hid h
  have HC : Hid (∀ X, Calls Tryd.prog 49 #[.int .i64 op, .int .i64 (m.r n.toNat)] X fun e w' => e = .returned (.tuple #[.int .i64 (moveV op (m.r n.toNat)), .bool (moveT op (m.r n.toNat))]) ∧ X = w') := fun X => moved_any' op _ X hop rn0 rn1
  have HE : Hid (plainE m op n mm imm at' = 0) := by
    unfold Hid plainE
    rw [if_neg (by omega)]
  have HMM : Hid (plainM m op n mm imm at' = { setR m n.toNat (moveV op (m.r n.toNat)) with t := moveT op (m.r n.toNat) }) := move_plain m op n mm imm at' hop rn0 rn1
  have ho1 : 14 ≤ op := by omega
  have ho2 : op ≤ 14 := by omega
  clear hop hv
  clear hV hb kV h hM hr
  go_enter Tryd.func35, Tryd.ntmps35
  go_upto_region 1 with fail
  rw [HV.out]
  clear HV
  go_upto_region 20 with fail
  refine wp_region_noPanic ?_
  refine wp_region_held_drew (S := fun w' => w'.heap[W.heap.size]? = some (.cells #[.int .i64 op, .int .i64 n, .int .i64 mm, .int .i64 imm] 45 (0, 0))) (by kernel_rfl) HK0.out (fun hHeld => ?_)
  generalize V.drew = V0 at *
  clear HK0 c0
  refine take_at 0 119 (v := ?_) rfl rfl (by kernel_rfl) (by kernel_rfl) (by kernel_rfl) (fun _ _ _ h => h) rfl ?_ hHeld ?_
  rotate_left
  · intro w hSw
    go_simp
    try with_reducible rfl
  simp only [List.setIfInBounds_toArray, List.set_cons_zero, List.set_cons_succ]
  refine take_at 1 120 (v := ?_) rfl rfl (by kernel_rfl) (by kernel_rfl) (by kernel_rfl) (fun _ _ _ h => h) rfl ?_ hHeld ?_
  rotate_left
  · intro w hSw
    go_simp
    try with_reducible rfl
  simp only [List.setIfInBounds_toArray, List.set_cons_zero, List.set_cons_succ]
  refine take_at 2 121 (v := ?_) rfl rfl (by kernel_rfl) (by kernel_rfl) (by kernel_rfl) (fun _ _ _ h => h) rfl ?_ hHeld ?_
  rotate_left
  · intro w hSw
    have y := cell_of_block (i := 1) hSw rfl
    go_simp
    try with_reducible rfl
  simp only [List.setIfInBounds_toArray, List.set_cons_zero, List.set_cons_succ]
  refine take_at 3 122 (v := ?_) rfl rfl (by kernel_rfl) (by kernel_rfl) (by kernel_rfl) (fun _ _ _ h => h) rfl ?_ hHeld ?_
  rotate_left
  · intro w hSw
    go_simp
    try with_reducible rfl
  simp only [List.setIfInBounds_toArray, List.set_cons_zero, List.set_cons_succ]
  refine take_at 4 123 (v := ?_) rfl rfl (by kernel_rfl) (by kernel_rfl) (by kernel_rfl) (fun _ _ _ h => h) rfl ?_ hHeld ?_
  rotate_left
  · intro w hSw
    go_simp
    try with_reducible rfl
  simp only [List.setIfInBounds_toArray, List.set_cons_zero, List.set_cons_succ]
  refine take_at 5 124 (v := ?_) rfl rfl (by kernel_rfl) (by kernel_rfl) (by kernel_rfl) (fun _ _ _ h => h) rfl ?_ hHeld ?_
  rotate_left
  · intro w hSw
    have y := cell_of_block (i := 0) hSw rfl
    go_simp
    try with_reducible rfl
  simp only [List.setIfInBounds_toArray, List.set_cons_zero, List.set_cons_succ]
  refine take_at 6 125 (v := ?_) rfl rfl (by kernel_rfl) (by kernel_rfl) (by kernel_rfl) (fun _ _ _ h => h) rfl ?_ hHeld ?_
  rotate_left
  · intro w hSw
    go_simp
    try with_reducible rfl
  simp only [List.setIfInBounds_toArray, List.set_cons_zero, List.set_cons_succ]
  refine take_at 7 126 (v := ?_) rfl rfl (by kernel_rfl) (by kernel_rfl) (by kernel_rfl) (fun _ _ _ h => h) rfl ?_ hHeld ?_
  rotate_left
  · intro w hSw
    go_simp
    try with_reducible rfl
  simp only [List.setIfInBounds_toArray, List.set_cons_zero, List.set_cons_succ]
  refine take_at 8 127 (v := ?_) rfl rfl (by kernel_rfl) (by kernel_rfl) (by kernel_rfl) (fun _ _ _ h => h) rfl ?_ hHeld ?_
  rotate_left
  · intro w hSw
    have y := cell_of_block (i := 1) hSw rfl
    go_simp
    try with_reducible rfl
  simp only [List.setIfInBounds_toArray, List.set_cons_zero, List.set_cons_succ]
  refine take_at 9 128 (v := ?_) rfl rfl (by kernel_rfl) (by kernel_rfl) (by kernel_rfl) (fun _ _ _ h => h) rfl ?_ hHeld ?_
  rotate_left
  · intro w hSw
    go_simp
    try with_reducible rfl
  simp only [List.setIfInBounds_toArray, List.set_cons_zero, List.set_cons_succ]
  refine take_at 10 129 (v := ?_) rfl rfl (by kernel_rfl) (by kernel_rfl) (by kernel_rfl) (fun _ _ _ h => h) rfl ?_ hHeld ?_
  rotate_left
  · intro w hSw
    go_simp
    try with_reducible rfl
  simp only [List.setIfInBounds_toArray, List.set_cons_zero, List.set_cons_succ]
  refine take_at 11 130 (v := ?_) rfl rfl (by kernel_rfl) (by kernel_rfl) (by kernel_rfl) (fun _ _ _ h => h) rfl ?_ hHeld ?_
  rotate_left
  · intro w hSw
    go_simp
    try with_reducible rfl
  simp only [List.setIfInBounds_toArray, List.set_cons_zero, List.set_cons_succ]
  refine take_at 17 135 (v := ?_) rfl rfl (by kernel_rfl) (by kernel_rfl) (by kernel_rfl) (fun _ _ _ h => h) rfl ?_ hHeld ?_
  rotate_left
  · intro w hSw
    go_simp
    try with_reducible rfl
  simp only [List.setIfInBounds_toArray, List.set_cons_zero, List.set_cons_succ]
  refine take_at 18 136 (v := ?_) rfl rfl (by kernel_rfl) (by kernel_rfl) (by kernel_rfl) (fun _ _ _ h => h) rfl ?_ hHeld ?_
  rotate_left
  · intro w hSw
    go_simp
    try with_reducible rfl
  simp only [List.setIfInBounds_toArray, List.set_cons_zero, List.set_cons_succ]
  refine wpAnyH_ready (rs := [12]) (by kernel_rfl) (by simp) ?_
  refine AllReadyH.cons rfl (fun K hK => ?_) AllReadyH.nil
  have xl := HM0.out.rn n.toNat hn16
  go_simp
  refine hK.out _ _ hHeld (fun hHeld => ?_)
  clear hK K xl
  refine wpAnyH_ready (rs := [13]) (by kernel_rfl) (by simp) ?_
  refine AllReadyH.cons rfl (fun K hK => ?_) AllReadyH.nil
  go_simp
  refine (HC.out V0).mono ?_
  rintro e V1 ⟨rfl, hb1⟩
  rw [← hb1]
  refine hK.out _ _ hHeld (fun hHeld => ?_)
  clear hK K hb1
  refine take_at 14 118 (v := ?_) rfl rfl (by kernel_rfl) (by kernel_rfl) (by kernel_rfl) (fun _ _ _ h => h) rfl ?_ hHeld ?_
  rotate_left
  · intro w hSw
    go_simp
    try with_reducible rfl
  simp only [List.setIfInBounds_toArray, List.set_cons_zero, List.set_cons_succ]
  refine take_at 15 133 (v := ?_) rfl rfl (by kernel_rfl) (by kernel_rfl) (by kernel_rfl) (fun _ _ _ h => h) rfl ?_ hHeld ?_
  rotate_left
  · intro w hSw
    go_simp
    try with_reducible rfl
  simp only [List.setIfInBounds_toArray, List.set_cons_zero, List.set_cons_succ]
  refine take_at 16 134 (v := ?_) rfl rfl (by kernel_rfl) (by kernel_rfl) (by kernel_rfl) (fun _ _ _ h => h) rfl ?_ hHeld ?_
  rotate_left
  · intro w hSw
    go_simp
    try with_reducible rfl
  simp only [List.setIfInBounds_toArray, List.set_cons_zero, List.set_cons_succ]
  refine take_at 19 137 (v := ?_) rfl rfl (by kernel_rfl) (by kernel_rfl) (by kernel_rfl) (fun _ _ _ h => h) rfl ?_ hHeld ?_
  rotate_left
  · intro w hSw
    go_simp
    try with_reducible rfl
  simp only [List.setIfInBounds_toArray, List.set_cons_zero, List.set_cons_succ]
  refine wpAnyH_ready (rs := [20]) (by kernel_rfl) (by simp) ?_
  refine AllReadyH.cons rfl (fun K hK => ?_) AllReadyH.nil
  have xs := HM0.out.rn n.toNat hn16
  have xf := HM0.out.fz n.toNat
  have HM1 := Lib.hid (HM0.out.reg n.toNat hn16 (moveV op (m.r n.toNat)))
  go_simp
  refine hK.out _ _ (by show (World.setCell V0 ⟨g, n.toNat, none⟩ _).heap[W.heap.size]? = _; rw [Below.heap_setCell _ _ _ _ (by exact hgne)]; exact hHeld) (fun hHeld => ?_)
  clear hK K xs xf
  refine take_at 21 138 (v := ?_) rfl rfl (by kernel_rfl) (by kernel_rfl) (by kernel_rfl) (fun _ _ _ h => h) rfl ?_ hHeld ?_
  rotate_left
  · intro w hSw
    go_simp
    try with_reducible rfl
  simp only [List.setIfInBounds_toArray, List.set_cons_zero, List.set_cons_succ]
  refine take_at 22 139 (v := ?_) rfl rfl (by kernel_rfl) (by kernel_rfl) (by kernel_rfl) (fun _ _ _ h => h) rfl ?_ hHeld ?_
  rotate_left
  · intro w hSw
    go_simp
    try with_reducible rfl
  simp only [List.setIfInBounds_toArray, List.set_cons_zero, List.set_cons_succ]
  refine wpAnyH_ready (rs := [23]) (by kernel_rfl) (by simp) ?_
  refine AllReadyH.cons rfl (fun K hK => ?_) AllReadyH.nil
  have xs := HM1.out.cells.1
  have xf := HM1.out.fz 16
  go_simp
  refine hK.out _ _ (by show (World.setCell (V0.setCell ⟨g, n.toNat, none⟩ (.int .i64 (moveV op (m.r n.toNat)))) ⟨g, 16, none⟩ _).heap[W.heap.size]? = _; rw [Below.heap_setCell _ _ _ _ (by exact hgne)]; exact hHeld) (fun hHeld => ?_)
  clear hK K xs xf
  refine wpAnyH_done (by kernel_rfl) ?_ _
  refine NoPanic.normal ?_
  go_wp2
  go_ret
  refine ⟨by rw [HE.out]; rfl, ?_⟩
  rw [HMM.out]
  exact ((PP.of HW.out HB0.out HW.out.kz).reg n.toNat hn16 _).flag _

set_option maxHeartbeats 8000000 in
set_option maxRecDepth 100000 in
theorem do_h15 (K g : Nat) (m : Ma) (gb bc : Nat) (s0 : Option Addr) (s1 s2 : Nat) (ta : Option Addr) (tc : Nat) (op n mm imm at' : Int) (W : World) (h : MR K g m gb bc (.slice s0 s1 s2) ta tc W) (hM : MOk m) (hr : ∀ k, in32 (m.r k)) (ha0 : 0 ≤ at') (ha1 : at' ≤ 1000000000000) (hi0 : -10000 ≤ imm) (hi1 : imm ≤ 10000) (hn0 : 0 ≤ n) (hn1 : n ≤ 15) (hm0 : 0 ≤ mm) (hm1 : mm ≤ 15) (hop : op = 14 ∨ op = 15 ∨ op = 16) (hv : op = 15) :
    Calls Tryd.prog 35 #[.pointer (some ⟨g, 0, none⟩), .agg #[.int .i64 op, .int .i64 n, .int .i64 mm, .int .i64 imm], .int .i64 at'] W fun e W' => e = .returned (.int .i64 (plainE m op n mm imm at')) ∧ PP K K g gb bc (.slice s0 s1 s2) (plainM m op n mm imm at') W W' := by
  have hused := And.intro hM (And.intro ha0 (And.intro ha1 (And.intro hi0 (And.intro hi1 (And.intro hm0 hm1)))))
  clear hused
  obtain ⟨V, hV⟩ : ∃ V, V = W.alloc (.cells #[.int .i64 op, .int .i64 n, .int .i64 mm, .int .i64 imm] 45) := ⟨_, rfl⟩
  have hb : Below W.heap.size W V := by rw [hV]; exact oalloc _ _
  have kV : V.heap[W.heap.size]? = some (.cells #[.int .i64 op, .int .i64 n, .int .i64 mm, .int .i64 imm] 45 (0, 0)) := by rw [hV]; exact blk_new _ _ _
  have c0 := cell_of_block (i := 0) kV rfl
  have hgW : g < W.heap.size := h.lt
  have hgne : W.heap.size ≠ g := by omega
  have hn16 : n.toNat < 16 := by omega
  have hm16 : mm.toNat < 16 := by omega
  have hn2 : n < 16 := by omega
  have hm2 : mm < 16 := by omega
  obtain ⟨rn0, rn1⟩ := hr n.toNat
  obtain ⟨rm0, rm1⟩ := hr mm.toNat
  have HV := Lib.hid hV.symm
  have HK0 : Hid (V.drew.heap[W.heap.size]? = some (.cells #[.int .i64 op, .int .i64 n, .int .i64 mm, .int .i64 imm] 45 (0, 0))) := kV
  have HB0 := Lib.hid hb.drew
  have HM0 := Lib.hid (h.next hb.drew)
  have HW := Lib.hid h
  have HC : Hid (∀ X, Calls Tryd.prog 49 #[.int .i64 op, .int .i64 (m.r n.toNat)] X fun e w' => e = .returned (.tuple #[.int .i64 (moveV op (m.r n.toNat)), .bool (moveT op (m.r n.toNat))]) ∧ X = w') := fun X => moved_any' op _ X hop rn0 rn1
  have HE : Hid (plainE m op n mm imm at' = 0) := by
    unfold Hid plainE
    rw [if_neg (by omega)]
  have HMM : Hid (plainM m op n mm imm at' = { setR m n.toNat (moveV op (m.r n.toNat)) with t := moveT op (m.r n.toNat) }) := move_plain m op n mm imm at' hop rn0 rn1
  have ho1 : 15 ≤ op := by omega
  have ho2 : op ≤ 15 := by omega
  clear hop hv
  clear hV hb kV h hM hr
  go_enter Tryd.func35, Tryd.ntmps35
  go_upto_region 1 with fail
  rw [HV.out]
  clear HV
  go_upto_region 20 with fail
  refine wp_region_noPanic ?_
  refine wp_region_held_drew (S := fun w' => w'.heap[W.heap.size]? = some (.cells #[.int .i64 op, .int .i64 n, .int .i64 mm, .int .i64 imm] 45 (0, 0))) (by kernel_rfl) HK0.out (fun hHeld => ?_)
  generalize V.drew = V0 at *
  clear HK0 c0
  refine take_at 0 119 (v := ?_) rfl rfl (by kernel_rfl) (by kernel_rfl) (by kernel_rfl) (fun _ _ _ h => h) rfl ?_ hHeld ?_
  rotate_left
  · intro w hSw
    go_simp
    try with_reducible rfl
  simp only [List.setIfInBounds_toArray, List.set_cons_zero, List.set_cons_succ]
  refine take_at 1 120 (v := ?_) rfl rfl (by kernel_rfl) (by kernel_rfl) (by kernel_rfl) (fun _ _ _ h => h) rfl ?_ hHeld ?_
  rotate_left
  · intro w hSw
    go_simp
    try with_reducible rfl
  simp only [List.setIfInBounds_toArray, List.set_cons_zero, List.set_cons_succ]
  refine take_at 2 121 (v := ?_) rfl rfl (by kernel_rfl) (by kernel_rfl) (by kernel_rfl) (fun _ _ _ h => h) rfl ?_ hHeld ?_
  rotate_left
  · intro w hSw
    have y := cell_of_block (i := 1) hSw rfl
    go_simp
    try with_reducible rfl
  simp only [List.setIfInBounds_toArray, List.set_cons_zero, List.set_cons_succ]
  refine take_at 3 122 (v := ?_) rfl rfl (by kernel_rfl) (by kernel_rfl) (by kernel_rfl) (fun _ _ _ h => h) rfl ?_ hHeld ?_
  rotate_left
  · intro w hSw
    go_simp
    try with_reducible rfl
  simp only [List.setIfInBounds_toArray, List.set_cons_zero, List.set_cons_succ]
  refine take_at 4 123 (v := ?_) rfl rfl (by kernel_rfl) (by kernel_rfl) (by kernel_rfl) (fun _ _ _ h => h) rfl ?_ hHeld ?_
  rotate_left
  · intro w hSw
    go_simp
    try with_reducible rfl
  simp only [List.setIfInBounds_toArray, List.set_cons_zero, List.set_cons_succ]
  refine take_at 5 124 (v := ?_) rfl rfl (by kernel_rfl) (by kernel_rfl) (by kernel_rfl) (fun _ _ _ h => h) rfl ?_ hHeld ?_
  rotate_left
  · intro w hSw
    have y := cell_of_block (i := 0) hSw rfl
    go_simp
    try with_reducible rfl
  simp only [List.setIfInBounds_toArray, List.set_cons_zero, List.set_cons_succ]
  refine take_at 6 125 (v := ?_) rfl rfl (by kernel_rfl) (by kernel_rfl) (by kernel_rfl) (fun _ _ _ h => h) rfl ?_ hHeld ?_
  rotate_left
  · intro w hSw
    go_simp
    try with_reducible rfl
  simp only [List.setIfInBounds_toArray, List.set_cons_zero, List.set_cons_succ]
  refine take_at 7 126 (v := ?_) rfl rfl (by kernel_rfl) (by kernel_rfl) (by kernel_rfl) (fun _ _ _ h => h) rfl ?_ hHeld ?_
  rotate_left
  · intro w hSw
    go_simp
    try with_reducible rfl
  simp only [List.setIfInBounds_toArray, List.set_cons_zero, List.set_cons_succ]
  refine take_at 8 127 (v := ?_) rfl rfl (by kernel_rfl) (by kernel_rfl) (by kernel_rfl) (fun _ _ _ h => h) rfl ?_ hHeld ?_
  rotate_left
  · intro w hSw
    have y := cell_of_block (i := 1) hSw rfl
    go_simp
    try with_reducible rfl
  simp only [List.setIfInBounds_toArray, List.set_cons_zero, List.set_cons_succ]
  refine take_at 9 128 (v := ?_) rfl rfl (by kernel_rfl) (by kernel_rfl) (by kernel_rfl) (fun _ _ _ h => h) rfl ?_ hHeld ?_
  rotate_left
  · intro w hSw
    go_simp
    try with_reducible rfl
  simp only [List.setIfInBounds_toArray, List.set_cons_zero, List.set_cons_succ]
  refine take_at 10 129 (v := ?_) rfl rfl (by kernel_rfl) (by kernel_rfl) (by kernel_rfl) (fun _ _ _ h => h) rfl ?_ hHeld ?_
  rotate_left
  · intro w hSw
    go_simp
    try with_reducible rfl
  simp only [List.setIfInBounds_toArray, List.set_cons_zero, List.set_cons_succ]
  refine take_at 11 130 (v := ?_) rfl rfl (by kernel_rfl) (by kernel_rfl) (by kernel_rfl) (fun _ _ _ h => h) rfl ?_ hHeld ?_
  rotate_left
  · intro w hSw
    go_simp
    try with_reducible rfl
  simp only [List.setIfInBounds_toArray, List.set_cons_zero, List.set_cons_succ]
  refine take_at 17 135 (v := ?_) rfl rfl (by kernel_rfl) (by kernel_rfl) (by kernel_rfl) (fun _ _ _ h => h) rfl ?_ hHeld ?_
  rotate_left
  · intro w hSw
    go_simp
    try with_reducible rfl
  simp only [List.setIfInBounds_toArray, List.set_cons_zero, List.set_cons_succ]
  refine take_at 18 136 (v := ?_) rfl rfl (by kernel_rfl) (by kernel_rfl) (by kernel_rfl) (fun _ _ _ h => h) rfl ?_ hHeld ?_
  rotate_left
  · intro w hSw
    go_simp
    try with_reducible rfl
  simp only [List.setIfInBounds_toArray, List.set_cons_zero, List.set_cons_succ]
  refine wpAnyH_ready (rs := [12]) (by kernel_rfl) (by simp) ?_
  refine AllReadyH.cons rfl (fun K hK => ?_) AllReadyH.nil
  have xl := HM0.out.rn n.toNat hn16
  go_simp
  refine hK.out _ _ hHeld (fun hHeld => ?_)
  clear hK K xl
  refine wpAnyH_ready (rs := [13]) (by kernel_rfl) (by simp) ?_
  refine AllReadyH.cons rfl (fun K hK => ?_) AllReadyH.nil
  go_simp
  refine (HC.out V0).mono ?_
  rintro e V1 ⟨rfl, hb1⟩
  rw [← hb1]
  refine hK.out _ _ hHeld (fun hHeld => ?_)
  clear hK K hb1
  refine take_at 14 118 (v := ?_) rfl rfl (by kernel_rfl) (by kernel_rfl) (by kernel_rfl) (fun _ _ _ h => h) rfl ?_ hHeld ?_
  rotate_left
  · intro w hSw
    go_simp
    try with_reducible rfl
  simp only [List.setIfInBounds_toArray, List.set_cons_zero, List.set_cons_succ]
  refine take_at 15 133 (v := ?_) rfl rfl (by kernel_rfl) (by kernel_rfl) (by kernel_rfl) (fun _ _ _ h => h) rfl ?_ hHeld ?_
  rotate_left
  · intro w hSw
    go_simp
    try with_reducible rfl
  simp only [List.setIfInBounds_toArray, List.set_cons_zero, List.set_cons_succ]
  refine take_at 16 134 (v := ?_) rfl rfl (by kernel_rfl) (by kernel_rfl) (by kernel_rfl) (fun _ _ _ h => h) rfl ?_ hHeld ?_
  rotate_left
  · intro w hSw
    go_simp
    try with_reducible rfl
  simp only [List.setIfInBounds_toArray, List.set_cons_zero, List.set_cons_succ]
  refine take_at 19 137 (v := ?_) rfl rfl (by kernel_rfl) (by kernel_rfl) (by kernel_rfl) (fun _ _ _ h => h) rfl ?_ hHeld ?_
  rotate_left
  · intro w hSw
    go_simp
    try with_reducible rfl
  simp only [List.setIfInBounds_toArray, List.set_cons_zero, List.set_cons_succ]
  refine wpAnyH_ready (rs := [20]) (by kernel_rfl) (by simp) ?_
  refine AllReadyH.cons rfl (fun K hK => ?_) AllReadyH.nil
  have xs := HM0.out.rn n.toNat hn16
  have xf := HM0.out.fz n.toNat
  have HM1 := Lib.hid (HM0.out.reg n.toNat hn16 (moveV op (m.r n.toNat)))
  go_simp
  refine hK.out _ _ (by show (World.setCell V0 ⟨g, n.toNat, none⟩ _).heap[W.heap.size]? = _; rw [Below.heap_setCell _ _ _ _ (by exact hgne)]; exact hHeld) (fun hHeld => ?_)
  clear hK K xs xf
  refine take_at 21 138 (v := ?_) rfl rfl (by kernel_rfl) (by kernel_rfl) (by kernel_rfl) (fun _ _ _ h => h) rfl ?_ hHeld ?_
  rotate_left
  · intro w hSw
    go_simp
    try with_reducible rfl
  simp only [List.setIfInBounds_toArray, List.set_cons_zero, List.set_cons_succ]
  refine take_at 22 139 (v := ?_) rfl rfl (by kernel_rfl) (by kernel_rfl) (by kernel_rfl) (fun _ _ _ h => h) rfl ?_ hHeld ?_
  rotate_left
  · intro w hSw
    go_simp
    try with_reducible rfl
  simp only [List.setIfInBounds_toArray, List.set_cons_zero, List.set_cons_succ]
  refine wpAnyH_ready (rs := [23]) (by kernel_rfl) (by simp) ?_
  refine AllReadyH.cons rfl (fun K hK => ?_) AllReadyH.nil
  have xs := HM1.out.cells.1
  have xf := HM1.out.fz 16
  go_simp
  refine hK.out _ _ (by show (World.setCell (V0.setCell ⟨g, n.toNat, none⟩ (.int .i64 (moveV op (m.r n.toNat)))) ⟨g, 16, none⟩ _).heap[W.heap.size]? = _; rw [Below.heap_setCell _ _ _ _ (by exact hgne)]; exact hHeld) (fun hHeld => ?_)
  clear hK K xs xf
  refine wpAnyH_done (by kernel_rfl) ?_ _
  refine NoPanic.normal ?_
  go_wp2
  go_ret
  refine ⟨by rw [HE.out]; rfl, ?_⟩
  rw [HMM.out]
  exact ((PP.of HW.out HB0.out HW.out.kz).reg n.toNat hn16 _).flag _

set_option maxHeartbeats 8000000 in
set_option maxRecDepth 100000 in
theorem do_h16 (K g : Nat) (m : Ma) (gb bc : Nat) (s0 : Option Addr) (s1 s2 : Nat) (ta : Option Addr) (tc : Nat) (op n mm imm at' : Int) (W : World) (h : MR K g m gb bc (.slice s0 s1 s2) ta tc W) (hM : MOk m) (hr : ∀ k, in32 (m.r k)) (ha0 : 0 ≤ at') (ha1 : at' ≤ 1000000000000) (hi0 : -10000 ≤ imm) (hi1 : imm ≤ 10000) (hn0 : 0 ≤ n) (hn1 : n ≤ 15) (hm0 : 0 ≤ mm) (hm1 : mm ≤ 15) (hop : op = 14 ∨ op = 15 ∨ op = 16) (hv : op = 16) :
    Calls Tryd.prog 35 #[.pointer (some ⟨g, 0, none⟩), .agg #[.int .i64 op, .int .i64 n, .int .i64 mm, .int .i64 imm], .int .i64 at'] W fun e W' => e = .returned (.int .i64 (plainE m op n mm imm at')) ∧ PP K K g gb bc (.slice s0 s1 s2) (plainM m op n mm imm at') W W' := by
  have hused := And.intro hM (And.intro ha0 (And.intro ha1 (And.intro hi0 (And.intro hi1 (And.intro hm0 hm1)))))
  clear hused
  obtain ⟨V, hV⟩ : ∃ V, V = W.alloc (.cells #[.int .i64 op, .int .i64 n, .int .i64 mm, .int .i64 imm] 45) := ⟨_, rfl⟩
  have hb : Below W.heap.size W V := by rw [hV]; exact oalloc _ _
  have kV : V.heap[W.heap.size]? = some (.cells #[.int .i64 op, .int .i64 n, .int .i64 mm, .int .i64 imm] 45 (0, 0)) := by rw [hV]; exact blk_new _ _ _
  have c0 := cell_of_block (i := 0) kV rfl
  have hgW : g < W.heap.size := h.lt
  have hgne : W.heap.size ≠ g := by omega
  have hn16 : n.toNat < 16 := by omega
  have hm16 : mm.toNat < 16 := by omega
  have hn2 : n < 16 := by omega
  have hm2 : mm < 16 := by omega
  obtain ⟨rn0, rn1⟩ := hr n.toNat
  obtain ⟨rm0, rm1⟩ := hr mm.toNat
  have HV := Lib.hid hV.symm
  have HK0 : Hid (V.drew.heap[W.heap.size]? = some (.cells #[.int .i64 op, .int .i64 n, .int .i64 mm, .int .i64 imm] 45 (0, 0))) := kV
  have HB0 := Lib.hid hb.drew
  have HM0 := Lib.hid (h.next hb.drew)
  have HW := Lib.hid h
  have HC : Hid (∀ X, Calls Tryd.prog 49 #[.int .i64 op, .int .i64 (m.r n.toNat)] X fun e w' => e = .returned (.tuple #[.int .i64 (moveV op (m.r n.toNat)), .bool (moveT op (m.r n.toNat))]) ∧ X = w') := fun X => moved_any' op _ X hop rn0 rn1
  have HE : Hid (plainE m op n mm imm at' = 0) := by
    unfold Hid plainE
    rw [if_neg (by omega)]
  have HMM : Hid (plainM m op n mm imm at' = { setR m n.toNat (moveV op (m.r n.toNat)) with t := moveT op (m.r n.toNat) }) := move_plain m op n mm imm at' hop rn0 rn1
  have ho1 : 16 ≤ op := by omega
  have ho2 : op ≤ 16 := by omega
  clear hop hv
  clear hV hb kV h hM hr
  go_enter Tryd.func35, Tryd.ntmps35
  go_upto_region 1 with fail
  rw [HV.out]
  clear HV
  go_upto_region 20 with fail
  refine wp_region_noPanic ?_
  refine wp_region_held_drew (S := fun w' => w'.heap[W.heap.size]? = some (.cells #[.int .i64 op, .int .i64 n, .int .i64 mm, .int .i64 imm] 45 (0, 0))) (by kernel_rfl) HK0.out (fun hHeld => ?_)
  generalize V.drew = V0 at *
  clear HK0 c0
  refine take_at 0 119 (v := ?_) rfl rfl (by kernel_rfl) (by kernel_rfl) (by kernel_rfl) (fun _ _ _ h => h) rfl ?_ hHeld ?_
  rotate_left
  · intro w hSw
    go_simp
    try with_reducible rfl
  simp only [List.setIfInBounds_toArray, List.set_cons_zero, List.set_cons_succ]
  refine take_at 1 120 (v := ?_) rfl rfl (by kernel_rfl) (by kernel_rfl) (by kernel_rfl) (fun _ _ _ h => h) rfl ?_ hHeld ?_
  rotate_left
  · intro w hSw
    go_simp
    try with_reducible rfl
  simp only [List.setIfInBounds_toArray, List.set_cons_zero, List.set_cons_succ]
  refine take_at 2 121 (v := ?_) rfl rfl (by kernel_rfl) (by kernel_rfl) (by kernel_rfl) (fun _ _ _ h => h) rfl ?_ hHeld ?_
  rotate_left
  · intro w hSw
    have y := cell_of_block (i := 1) hSw rfl
    go_simp
    try with_reducible rfl
  simp only [List.setIfInBounds_toArray, List.set_cons_zero, List.set_cons_succ]
  refine take_at 3 122 (v := ?_) rfl rfl (by kernel_rfl) (by kernel_rfl) (by kernel_rfl) (fun _ _ _ h => h) rfl ?_ hHeld ?_
  rotate_left
  · intro w hSw
    go_simp
    try with_reducible rfl
  simp only [List.setIfInBounds_toArray, List.set_cons_zero, List.set_cons_succ]
  refine take_at 4 123 (v := ?_) rfl rfl (by kernel_rfl) (by kernel_rfl) (by kernel_rfl) (fun _ _ _ h => h) rfl ?_ hHeld ?_
  rotate_left
  · intro w hSw
    go_simp
    try with_reducible rfl
  simp only [List.setIfInBounds_toArray, List.set_cons_zero, List.set_cons_succ]
  refine take_at 5 124 (v := ?_) rfl rfl (by kernel_rfl) (by kernel_rfl) (by kernel_rfl) (fun _ _ _ h => h) rfl ?_ hHeld ?_
  rotate_left
  · intro w hSw
    have y := cell_of_block (i := 0) hSw rfl
    go_simp
    try with_reducible rfl
  simp only [List.setIfInBounds_toArray, List.set_cons_zero, List.set_cons_succ]
  refine take_at 6 125 (v := ?_) rfl rfl (by kernel_rfl) (by kernel_rfl) (by kernel_rfl) (fun _ _ _ h => h) rfl ?_ hHeld ?_
  rotate_left
  · intro w hSw
    go_simp
    try with_reducible rfl
  simp only [List.setIfInBounds_toArray, List.set_cons_zero, List.set_cons_succ]
  refine take_at 7 126 (v := ?_) rfl rfl (by kernel_rfl) (by kernel_rfl) (by kernel_rfl) (fun _ _ _ h => h) rfl ?_ hHeld ?_
  rotate_left
  · intro w hSw
    go_simp
    try with_reducible rfl
  simp only [List.setIfInBounds_toArray, List.set_cons_zero, List.set_cons_succ]
  refine take_at 8 127 (v := ?_) rfl rfl (by kernel_rfl) (by kernel_rfl) (by kernel_rfl) (fun _ _ _ h => h) rfl ?_ hHeld ?_
  rotate_left
  · intro w hSw
    have y := cell_of_block (i := 1) hSw rfl
    go_simp
    try with_reducible rfl
  simp only [List.setIfInBounds_toArray, List.set_cons_zero, List.set_cons_succ]
  refine take_at 9 128 (v := ?_) rfl rfl (by kernel_rfl) (by kernel_rfl) (by kernel_rfl) (fun _ _ _ h => h) rfl ?_ hHeld ?_
  rotate_left
  · intro w hSw
    go_simp
    try with_reducible rfl
  simp only [List.setIfInBounds_toArray, List.set_cons_zero, List.set_cons_succ]
  refine take_at 10 129 (v := ?_) rfl rfl (by kernel_rfl) (by kernel_rfl) (by kernel_rfl) (fun _ _ _ h => h) rfl ?_ hHeld ?_
  rotate_left
  · intro w hSw
    go_simp
    try with_reducible rfl
  simp only [List.setIfInBounds_toArray, List.set_cons_zero, List.set_cons_succ]
  refine take_at 11 130 (v := ?_) rfl rfl (by kernel_rfl) (by kernel_rfl) (by kernel_rfl) (fun _ _ _ h => h) rfl ?_ hHeld ?_
  rotate_left
  · intro w hSw
    go_simp
    try with_reducible rfl
  simp only [List.setIfInBounds_toArray, List.set_cons_zero, List.set_cons_succ]
  refine take_at 17 135 (v := ?_) rfl rfl (by kernel_rfl) (by kernel_rfl) (by kernel_rfl) (fun _ _ _ h => h) rfl ?_ hHeld ?_
  rotate_left
  · intro w hSw
    go_simp
    try with_reducible rfl
  simp only [List.setIfInBounds_toArray, List.set_cons_zero, List.set_cons_succ]
  refine take_at 18 136 (v := ?_) rfl rfl (by kernel_rfl) (by kernel_rfl) (by kernel_rfl) (fun _ _ _ h => h) rfl ?_ hHeld ?_
  rotate_left
  · intro w hSw
    go_simp
    try with_reducible rfl
  simp only [List.setIfInBounds_toArray, List.set_cons_zero, List.set_cons_succ]
  refine wpAnyH_ready (rs := [12]) (by kernel_rfl) (by simp) ?_
  refine AllReadyH.cons rfl (fun K hK => ?_) AllReadyH.nil
  have xl := HM0.out.rn n.toNat hn16
  go_simp
  refine hK.out _ _ hHeld (fun hHeld => ?_)
  clear hK K xl
  refine wpAnyH_ready (rs := [13]) (by kernel_rfl) (by simp) ?_
  refine AllReadyH.cons rfl (fun K hK => ?_) AllReadyH.nil
  go_simp
  refine (HC.out V0).mono ?_
  rintro e V1 ⟨rfl, hb1⟩
  rw [← hb1]
  refine hK.out _ _ hHeld (fun hHeld => ?_)
  clear hK K hb1
  refine take_at 14 118 (v := ?_) rfl rfl (by kernel_rfl) (by kernel_rfl) (by kernel_rfl) (fun _ _ _ h => h) rfl ?_ hHeld ?_
  rotate_left
  · intro w hSw
    go_simp
    try with_reducible rfl
  simp only [List.setIfInBounds_toArray, List.set_cons_zero, List.set_cons_succ]
  refine take_at 15 133 (v := ?_) rfl rfl (by kernel_rfl) (by kernel_rfl) (by kernel_rfl) (fun _ _ _ h => h) rfl ?_ hHeld ?_
  rotate_left
  · intro w hSw
    go_simp
    try with_reducible rfl
  simp only [List.setIfInBounds_toArray, List.set_cons_zero, List.set_cons_succ]
  refine take_at 16 134 (v := ?_) rfl rfl (by kernel_rfl) (by kernel_rfl) (by kernel_rfl) (fun _ _ _ h => h) rfl ?_ hHeld ?_
  rotate_left
  · intro w hSw
    go_simp
    try with_reducible rfl
  simp only [List.setIfInBounds_toArray, List.set_cons_zero, List.set_cons_succ]
  refine take_at 19 137 (v := ?_) rfl rfl (by kernel_rfl) (by kernel_rfl) (by kernel_rfl) (fun _ _ _ h => h) rfl ?_ hHeld ?_
  rotate_left
  · intro w hSw
    go_simp
    try with_reducible rfl
  simp only [List.setIfInBounds_toArray, List.set_cons_zero, List.set_cons_succ]
  refine wpAnyH_ready (rs := [20]) (by kernel_rfl) (by simp) ?_
  refine AllReadyH.cons rfl (fun K hK => ?_) AllReadyH.nil
  have xs := HM0.out.rn n.toNat hn16
  have xf := HM0.out.fz n.toNat
  have HM1 := Lib.hid (HM0.out.reg n.toNat hn16 (moveV op (m.r n.toNat)))
  go_simp
  refine hK.out _ _ (by show (World.setCell V0 ⟨g, n.toNat, none⟩ _).heap[W.heap.size]? = _; rw [Below.heap_setCell _ _ _ _ (by exact hgne)]; exact hHeld) (fun hHeld => ?_)
  clear hK K xs xf
  refine take_at 21 138 (v := ?_) rfl rfl (by kernel_rfl) (by kernel_rfl) (by kernel_rfl) (fun _ _ _ h => h) rfl ?_ hHeld ?_
  rotate_left
  · intro w hSw
    go_simp
    try with_reducible rfl
  simp only [List.setIfInBounds_toArray, List.set_cons_zero, List.set_cons_succ]
  refine take_at 22 139 (v := ?_) rfl rfl (by kernel_rfl) (by kernel_rfl) (by kernel_rfl) (fun _ _ _ h => h) rfl ?_ hHeld ?_
  rotate_left
  · intro w hSw
    go_simp
    try with_reducible rfl
  simp only [List.setIfInBounds_toArray, List.set_cons_zero, List.set_cons_succ]
  refine wpAnyH_ready (rs := [23]) (by kernel_rfl) (by simp) ?_
  refine AllReadyH.cons rfl (fun K hK => ?_) AllReadyH.nil
  have xs := HM1.out.cells.1
  have xf := HM1.out.fz 16
  go_simp
  refine hK.out _ _ (by show (World.setCell (V0.setCell ⟨g, n.toNat, none⟩ (.int .i64 (moveV op (m.r n.toNat)))) ⟨g, 16, none⟩ _).heap[W.heap.size]? = _; rw [Below.heap_setCell _ _ _ _ (by exact hgne)]; exact hHeld) (fun hHeld => ?_)
  clear hK K xs xf
  refine wpAnyH_done (by kernel_rfl) ?_ _
  refine NoPanic.normal ?_
  go_wp2
  go_ret
  refine ⟨by rw [HE.out]; rfl, ?_⟩
  rw [HMM.out]
  exact ((PP.of HW.out HB0.out HW.out.kz).reg n.toNat hn16 _).flag _

end Go.Proofs.YtabepbaldadmgaaDoor
