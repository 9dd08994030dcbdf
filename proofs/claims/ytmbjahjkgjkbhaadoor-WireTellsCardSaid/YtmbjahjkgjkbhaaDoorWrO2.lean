/- The contract of the document's own message of bytes: another sum. -/
import Derived.Test.YtmbjahjkgjkbhaaDoorWrO
namespace Go.Proofs.YtmbjahjkgjkbhaaDoor
open Go.RowKit

set_option maxHeartbeats 4000000 in
set_option maxRecDepth 100000 in
theorem rparse_sum (l : List UInt8) (v : Value) (w : World) (hv : RB w w.heap.size v l) (hl : l.length ≤ 140737488355328) (h14 : 14 ≤ l.length) (hlen : (l.length : Int) = 14 + n4 l 8) (hs : ¬ sumL (l.take (l.length - 2)) = n2 l (l.length - 2)) :
    Calls Tryd.prog 11 #[v] w fun e w' => Below w.heap.size w w' ∧ e = .returned (.tuple #[.agg zeroA, .int .i64 2]) := by
  have hB0 := hv.bytes (Nat.le_refl _) (by unfold maxLen; omega)
  have h4 := n4_nonneg l 8
  have HGET : Hid (∀ W, Below w.heap.size w W → Calls Tryd.prog 22 #[v, .int .i64 8, .int .i64 4] W fun e w' => e = .returned (.int .i64 (n4 l 8)) ∧ w' = W) := fun W h => by
    have := rget_any l v W (hB0.below h (Nat.le_refl _)) 8 4 (by decide) (by decide) (by decide) (by decide)
    have e : gN l 8 (4 : Int).toNat = n4 l 8 := gN4 l 8
    rwa [e] at this
  obtain ⟨ad, cap, rfl, hbs⟩ := hv
  rcases hbs with ⟨_, _, rfl⟩ | ⟨a, rfl, hcap, hcs⟩
  · simp at h14
  obtain ⟨b, o, rfl, hbl, hcs⟩ := hcs (by omega)
  have HSUM : Hid (∀ W, Below w.heap.size w W → Calls Tryd.prog 16 #[.slice (some ⟨b, o, none⟩) (l.length - 2) cap] W fun r w' => r = .returned (.int .i64 (sumL (l.take (l.length - 2)))) ∧ w' = W) := fun W hb => by
    have h := bytes_sub hcs hbl hb 0 (l.length - 2) cap (by omega) hl
    rw [List.drop_zero] at h
    exact rsum_any _ _ W h
  have HCEL : Hid (∀ W i, Below w.heap.size w W → i < l.length → W.cell? ⟨b, o + i, none⟩ = some (.int .u8 (nB l i))) := fun W i hb hi => by
    rw [hb.cell (by exact hbl), hcs i hi]
    simp [nB, byF, hi]
  have hy1 := nB_bd l (l.length - 2)
  have hy2 := nB_bd l (l.length - 1)
  obtain ⟨y10, y11⟩ := hy1
  obtain ⟨y20, y21⟩ := hy2
  clear hB0 hcs
  have hlen1 : decide (((l.length : Nat) : Int) < 14) = false := decide_eq_false (by omega)
  have hlen2 : (n4 l 8 != ((l.length : Nat) : Int) - 14) = false := by simp; omega
  have hs1 : (sumL (l.take (l.length - 2)) != 256 * nB l (l.length - 2) + nB l (l.length - 1)) = true := by
    have e : n2 l (l.length - 2) = nB l (l.length - 2) * 256 + nB l (l.length - 1) := by unfold n2; rw [show l.length - 2 + 1 = l.length - 1 by omega]
    rw [e] at hs
    simp
    omega
  have hge : (14 : Int) ≤ ((l.length : Nat) : Int) := by omega
  generalize n4 l 8 = g4 at *
  generalize sumL (l.take (l.length - 2)) = sm at *
  have HCEL1 : Hid (∀ W, Below w.heap.size w W → W.cell? ⟨b, o + (l.length - 2), none⟩ = some (.int .u8 (nB l (l.length - 2)))) := fun W h => HCEL.out W _ h (by omega)
  have HCEL2 : Hid (∀ W, Below w.heap.size w W → W.cell? ⟨b, o + (l.length - 1), none⟩ = some (.int .u8 (nB l (l.length - 1)))) := fun W h => HCEL.out W _ h (by omega)
  generalize nB l (l.length - 2) = q1 at *
  generalize nB l (l.length - 1) = q2 at *
  have hw14 : IntKind.i64.wrap (((l.length : Nat) : Int) - 14) = ((l.length : Nat) : Int) - 14 := by rw [IntKind.wrap_i64]; omega
  have hw2 : IntKind.i64.wrap (((l.length : Nat) : Int) - 2) = ((l.length : Nat) : Int) - 2 := by rw [IntKind.wrap_i64]; omega
  have hw1 : IntKind.i64.wrap (((l.length : Nat) : Int) - 1) = ((l.length : Nat) : Int) - 1 := by rw [IntKind.wrap_i64]; omega
  have hq1 : IntKind.i64.wrap q1 = q1 := by rw [IntKind.wrap_i64]; omega
  have hq2 : IntKind.i64.wrap q2 = q2 := by rw [IntKind.wrap_i64]; omega
  have hq3 : IntKind.i64.wrap (256 * q1) = 256 * q1 := by rw [IntKind.wrap_i64]; omega
  have hq4 : IntKind.i64.wrap (256 * q1 + q2) = 256 * q1 + q2 := by rw [IntKind.wrap_i64]; omega
  clear hlen hs HCEL
  have HPK := Lib.hid (rk_drew (rk_start w))
  go_enter Tryd.func11, Tryd.ntmps11
  go_wp2_with fail
  refine wp_region_noPanic ?_
  generalize World.alloc w _ = W0 at *
  refine wp_region_held_drew (S := fun w' => w' = W0.drew) (by kernel_rfl) rfl (fun hHeld => ?_)
  generalize W0.drew = V0 at *
  refine take_at 0 9 (v := ?_) rfl rfl (by kernel_rfl) (by kernel_rfl) (by kernel_rfl) (fun _ _ _ h => h) rfl ?_ hHeld ?_
  rotate_left
  · intro w hSw
    go_simp
    try with_reducible rfl
  simp only [List.setIfInBounds_toArray, List.set_cons_zero, List.set_cons_succ]
  refine take_at 1 10 (v := ?_) rfl rfl (by kernel_rfl) (by kernel_rfl) (by kernel_rfl) (fun _ _ _ h => h) rfl ?_ hHeld ?_
  rotate_left
  · intro w hSw
    go_simp
    try with_reducible rfl
  simp only [List.setIfInBounds_toArray, List.set_cons_zero, List.set_cons_succ]
  refine take_at 2 11 (v := ?_) rfl rfl (by kernel_rfl) (by kernel_rfl) (by kernel_rfl) (fun _ _ _ h => h) rfl ?_ hHeld ?_
  rotate_left
  · intro w hSw
    go_simp
    try with_reducible rfl
  simp only [List.setIfInBounds_toArray, List.set_cons_zero, List.set_cons_succ]
  refine take_at 3 12 (v := ?_) rfl rfl (by kernel_rfl) (by kernel_rfl) (by kernel_rfl) (fun _ _ _ h => h) rfl ?_ hHeld ?_
  rotate_left
  · intro w hSw
    go_simp
    try with_reducible rfl
  simp only [List.setIfInBounds_toArray, List.set_cons_zero, List.set_cons_succ]
  refine take_at 5 14 (v := ?_) rfl rfl (by kernel_rfl) (by kernel_rfl) (by kernel_rfl) (fun _ _ _ h => h) rfl ?_ hHeld ?_
  rotate_left
  · intro w hSw
    go_simp
    try with_reducible rfl
  simp only [List.setIfInBounds_toArray, List.set_cons_zero, List.set_cons_succ]
  refine take_at 6 15 (v := ?_) rfl rfl (by kernel_rfl) (by kernel_rfl) (by kernel_rfl) (fun _ _ _ h => h) rfl ?_ hHeld ?_
  rotate_left
  · intro w hSw
    go_simp
    try with_reducible rfl
  simp only [List.setIfInBounds_toArray, List.set_cons_zero, List.set_cons_succ]
  refine wpAnyH_ready (rs := [4]) (by kernel_rfl) (by simp) ?_
  refine AllReadyH.cons rfl (fun K hK => ?_) AllReadyH.nil
  go_simp
  refine (HGET.out V0 HPK.out.bel).mono ?_
  rintro e V1 ⟨rfl, hb1⟩
  rw [hb1]
  refine hK.out _ _ hHeld (fun hHeld => ?_)
  clear hK K hb1
  refine take_at 7 16 (v := ?_) rfl rfl (by kernel_rfl) (by kernel_rfl) (by kernel_rfl) (fun _ _ _ h => h) rfl ?_ hHeld ?_
  rotate_left
  · intro w hSw
    go_simp
    try with_reducible rfl
  simp only [List.setIfInBounds_toArray, List.set_cons_zero, List.set_cons_succ]
  refine take_at 8 17 (v := ?_) rfl rfl (by kernel_rfl) (by kernel_rfl) (by kernel_rfl) (fun _ _ _ h => h) rfl ?_ hHeld ?_
  rotate_left
  · intro w hSw
    go_simp
    try with_reducible rfl
  simp only [List.setIfInBounds_toArray, List.set_cons_zero, List.set_cons_succ]
  refine take_at 9 18 (v := ?_) rfl rfl (by kernel_rfl) (by kernel_rfl) (by kernel_rfl) (fun _ _ _ h => h) rfl ?_ hHeld ?_
  rotate_left
  · intro w hSw
    go_simp
    try with_reducible rfl
  simp only [List.setIfInBounds_toArray, List.set_cons_zero, List.set_cons_succ]
  refine take_at 10 19 (v := ?_) rfl rfl (by kernel_rfl) (by kernel_rfl) (by kernel_rfl) (fun _ _ _ h => h) rfl ?_ hHeld ?_
  rotate_left
  · intro w hSw
    go_simp
    try with_reducible rfl
  simp only [List.setIfInBounds_toArray, List.set_cons_zero, List.set_cons_succ]
  refine take_at 11 20 (v := ?_) rfl rfl (by kernel_rfl) (by kernel_rfl) (by kernel_rfl) (fun _ _ _ h => h) rfl ?_ hHeld ?_
  rotate_left
  · intro w hSw
    go_simp
    try with_reducible rfl
  simp only [List.setIfInBounds_toArray, List.set_cons_zero, List.set_cons_succ]
  refine take_at 12 21 (v := ?_) rfl rfl (by kernel_rfl) (by kernel_rfl) (by kernel_rfl) (fun _ _ _ h => h) rfl ?_ hHeld ?_
  rotate_left
  · intro w hSw
    go_simp
    try with_reducible rfl
  simp only [List.setIfInBounds_toArray, List.set_cons_zero, List.set_cons_succ]
  refine take_at 13 22 (v := ?_) rfl rfl (by kernel_rfl) (by kernel_rfl) (by kernel_rfl) (fun _ _ _ h => h) rfl ?_ hHeld ?_
  rotate_left
  · intro w hSw
    rw [hSw]
    go_simp
    rw [if_pos (by omega), show (((l.length : Nat) : Int) - 2).toNat = l.length - 2 by omega]
    try with_reducible rfl
  simp only [List.setIfInBounds_toArray, List.set_cons_zero, List.set_cons_succ]
  refine take_at 15 24 (v := ?_) rfl rfl (by kernel_rfl) (by kernel_rfl) (by kernel_rfl) (fun _ _ _ h => h) rfl ?_ hHeld ?_
  rotate_left
  · intro w hSw
    go_simp
    try with_reducible rfl
  simp only [List.setIfInBounds_toArray, List.set_cons_zero, List.set_cons_succ]
  refine take_at 16 25 (v := ?_) rfl rfl (by kernel_rfl) (by kernel_rfl) (by kernel_rfl) (fun _ _ _ h => h) rfl ?_ hHeld ?_
  rotate_left
  · intro w hSw
    go_simp
    try with_reducible rfl
  simp only [List.setIfInBounds_toArray, List.set_cons_zero, List.set_cons_succ]
  refine take_at 17 26 (v := ?_) rfl rfl (by kernel_rfl) (by kernel_rfl) (by kernel_rfl) (fun _ _ _ h => h) rfl ?_ hHeld ?_
  rotate_left
  · intro w hSw
    go_simp
    try with_reducible rfl
  simp only [List.setIfInBounds_toArray, List.set_cons_zero, List.set_cons_succ]
  refine take_at 18 27 (v := ?_) rfl rfl (by kernel_rfl) (by kernel_rfl) (by kernel_rfl) (fun _ _ _ h => h) rfl ?_ hHeld ?_
  rotate_left
  · intro w hSw
    go_simp
    rw [if_pos (by omega), show (((l.length : Nat) : Int) - 2).toNat = l.length - 2 by omega]
    try with_reducible rfl
  simp only [List.setIfInBounds_toArray, List.set_cons_zero, List.set_cons_succ]
  refine take_at 19 28 (v := ?_) rfl rfl (by kernel_rfl) (by kernel_rfl) (by kernel_rfl) (fun _ _ _ h => h) rfl ?_ hHeld ?_
  rotate_left
  · intro w hSw
    rw [hSw]
    have y := HCEL1.out V0 HPK.out.bel
    go_simp
    try with_reducible rfl
  simp only [List.setIfInBounds_toArray, List.set_cons_zero, List.set_cons_succ]
  refine take_at 20 29 (v := ?_) rfl rfl (by kernel_rfl) (by kernel_rfl) (by kernel_rfl) (fun _ _ _ h => h) rfl ?_ hHeld ?_
  rotate_left
  · intro w hSw
    go_simp
    try with_reducible rfl
  simp only [List.setIfInBounds_toArray, List.set_cons_zero, List.set_cons_succ]
  refine take_at 21 30 (v := ?_) rfl rfl (by kernel_rfl) (by kernel_rfl) (by kernel_rfl) (fun _ _ _ h => h) rfl ?_ hHeld ?_
  rotate_left
  · intro w hSw
    go_simp
    try with_reducible rfl
  simp only [List.setIfInBounds_toArray, List.set_cons_zero, List.set_cons_succ]
  refine take_at 22 31 (v := ?_) rfl rfl (by kernel_rfl) (by kernel_rfl) (by kernel_rfl) (fun _ _ _ h => h) rfl ?_ hHeld ?_
  rotate_left
  · intro w hSw
    go_simp
    try with_reducible rfl
  simp only [List.setIfInBounds_toArray, List.set_cons_zero, List.set_cons_succ]
  refine take_at 23 32 (v := ?_) rfl rfl (by kernel_rfl) (by kernel_rfl) (by kernel_rfl) (fun _ _ _ h => h) rfl ?_ hHeld ?_
  rotate_left
  · intro w hSw
    go_simp
    try with_reducible rfl
  simp only [List.setIfInBounds_toArray, List.set_cons_zero, List.set_cons_succ]
  refine take_at 24 33 (v := ?_) rfl rfl (by kernel_rfl) (by kernel_rfl) (by kernel_rfl) (fun _ _ _ h => h) rfl ?_ hHeld ?_
  rotate_left
  · intro w hSw
    go_simp
    try with_reducible rfl
  simp only [List.setIfInBounds_toArray, List.set_cons_zero, List.set_cons_succ]
  refine take_at 25 34 (v := ?_) rfl rfl (by kernel_rfl) (by kernel_rfl) (by kernel_rfl) (fun _ _ _ h => h) rfl ?_ hHeld ?_
  rotate_left
  · intro w hSw
    go_simp
    rw [if_pos (by omega)]
    try with_reducible rfl
  simp only [List.setIfInBounds_toArray, List.set_cons_zero, List.set_cons_succ]
  refine take_at 26 35 (v := ?_) rfl rfl (by kernel_rfl) (by kernel_rfl) (by kernel_rfl) (fun _ _ _ h => h) rfl ?_ hHeld ?_
  rotate_left
  · intro w hSw
    rw [hSw]
    have y := HCEL2.out V0 HPK.out.bel
    go_simp
    try with_reducible rfl
  simp only [List.setIfInBounds_toArray, List.set_cons_zero, List.set_cons_succ]
  refine take_at 27 36 (v := ?_) rfl rfl (by kernel_rfl) (by kernel_rfl) (by kernel_rfl) (fun _ _ _ h => h) rfl ?_ hHeld ?_
  rotate_left
  · intro w hSw
    go_simp
    try with_reducible rfl
  simp only [List.setIfInBounds_toArray, List.set_cons_zero, List.set_cons_succ]
  refine take_at 28 37 (v := ?_) rfl rfl (by kernel_rfl) (by kernel_rfl) (by kernel_rfl) (fun _ _ _ h => h) rfl ?_ hHeld ?_
  rotate_left
  · intro w hSw
    go_simp
    try with_reducible rfl
  simp only [List.setIfInBounds_toArray, List.set_cons_zero, List.set_cons_succ]
  refine wpAnyH_ready (rs := [14]) (by kernel_rfl) (by simp) ?_
  refine AllReadyH.cons rfl (fun K hK => ?_) AllReadyH.nil
  go_simp
  refine (HSUM.out V0 HPK.out.bel).mono ?_
  rintro e V1 ⟨rfl, hb1⟩
  rw [hb1]
  refine hK.out _ _ hHeld (fun hHeld => ?_)
  clear hK K hb1
  refine take_at 29 38 (v := ?_) rfl rfl (by kernel_rfl) (by kernel_rfl) (by kernel_rfl) (fun _ _ _ h => h) rfl ?_ hHeld ?_
  rotate_left
  · intro w hSw
    go_simp
    try with_reducible rfl
  simp only [List.setIfInBounds_toArray, List.set_cons_zero, List.set_cons_succ]
  refine take_at 30 39 (v := ?_) rfl rfl (by kernel_rfl) (by kernel_rfl) (by kernel_rfl) (fun _ _ _ h => h) rfl ?_ hHeld ?_
  rotate_left
  · intro w hSw
    go_simp
    try with_reducible rfl
  simp only [List.setIfInBounds_toArray, List.set_cons_zero, List.set_cons_succ]
  refine wpAnyH_done (by kernel_rfl) ?_ _
  refine NoPanic.normal ?_
  clear hHeld
  go_wp2_with (refine wpList_store_row rfl 27 _ _ rfl w.heap.size zeroA rfl rfl 27 zeroA HPK.out.box zSize rfl zAll ?_)
  exact bodyPost_ret (v := .tuple #[.agg zeroA, .int .i64 2]) (res_q rfl rfl (setRow_heap _ _ _ _ _ _ HPK.out.box) rfl) rfl ⟨below_setRow HPK.out.bel (Nat.le_refl _) _, rfl⟩

end Go.Proofs.YtmbjahjkgjkbhaaDoor
