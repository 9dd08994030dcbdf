/- The contract of the document's own message of bytes. -/
import Derived.Test.YtmbjahjkgjkbhaaDoorWrO2
namespace Go.Proofs.YtmbjahjkgjkbhaaDoor
open Go.RowKit

/-- An append whose run is known, as a step of a region that draws. -/
theorem step_app_eq {P : Program} {ops : Array Oper} {o : Oper} {a : Act} {w : World} {K : Act → World → Prop} {Q : Exit → Act → World → Prop} {E : Prop} (hgd : o.guard = none) (d : Nat) (hd : o.dst = some d) (sl x : Operand) (t u : TypeId)
    (ho : o.op = .call { callee := .builtin .append, args := #[sl, x], argTypes := #[t, u] }) (v v2 : Value) (hs : a.eval sl = v) (hx : a.eval x = v2) {v' : Value} {w' : World}
    (hr : ∀ ty, (Builtin.append_ #[t, u] ty #[v, v2]).run P w = .ok v' w') (h : K ⟨a.tmps.setIfInBounds d v', a.defers⟩ w') : if Region.wanted o (yielded ops a.tmps) = true then Oper.wp P o a w K Q else E := by
  have hw : Region.wanted o (yielded ops a.tmps) = true := by simp [Region.wanted, hgd]
  rw [if_pos hw]
  have hr := hr o.type
  unfold Oper.wp execOp
  simp only [ho, resolve, invoke, builtin, Sem.run_bind, Sem.run_pure, Result.andThen_ok, List.map_toArray, List.map_cons, List.map_nil, hs, hx, hr]
  show K (a.put o.dst v') w'
  rw [hd]
  exact h


set_option maxHeartbeats 16000000 in
set_option maxRecDepth 100000 in
theorem rparse_good (l : List UInt8) (v : Value) (w : World) (hv : RB w w.heap.size v l) (hl : l.length ≤ 140737488355328) (h14 : 14 ≤ l.length) (hlen : (l.length : Int) = 14 + n4 l 8) (hs : sumL (l.take (l.length - 2)) = n2 l (l.length - 2)) :
    Calls Tryd.prog 11 #[v] w fun e w' => Below w.heap.size w w' ∧ (wrongM (msgOf l) ≠ 0 → e = .returned (.tuple #[.agg zeroA, .int .i64 (wrongM (msgOf l))])) ∧ (wrongM (msgOf l) = 0 → ∃ dv, e = .returned (.tuple #[msV (msgOf l) dv, .int .i64 0]) ∧ Out w' w.heap.size dv (msgOf l).data) := by
  have hB0 := hv.bytes (Nat.le_refl _) (by unfold maxLen; omega)
  have h4 := n4_nonneg l 8
  have HGET : Hid (∀ W, Below w.heap.size w W → Calls Tryd.prog 22 #[v, .int .i64 8, .int .i64 4] W fun e w' => e = .returned (.int .i64 (n4 l 8)) ∧ w' = W) := fun W h => by
    have := rget_any l v W (hB0.below h (Nat.le_refl _)) 8 4 (by decide) (by decide) (by decide) (by decide)
    have e : gN l 8 (4 : Int).toNat = n4 l 8 := gN4 l 8
    rwa [e] at this
  obtain ⟨ad, cap, rfl, hbs⟩ := hv
  rcases hbs with ⟨_, _, rfl⟩ | ⟨a, rfl, hcap, hcs⟩
  · simp at h14
  obtain ⟨b, o, rfl, hbl, hcs⟩ := hcs (by omega)
  have HSUM : Hid (∀ W, Below w.heap.size w W → Calls Tryd.prog 16 #[.slice (some ⟨b, o, none⟩) (l.length - 2) cap] W fun r w' => r = .returned (.int .i64 (sumL (l.take (l.length - 2)))) ∧ w' = W) := fun W hb => by
    have h := bytes_sub hcs hbl hb 0 (l.length - 2) cap (by omega) hl
    rw [List.drop_zero] at h
    exact rsum_any _ _ W h
  have HCEL : Hid (∀ W i, Below w.heap.size w W → i < l.length → W.cell? ⟨b, o + i, none⟩ = some (.int .u8 (nB l i))) := fun W i hb hi => by
    rw [hb.cell (by exact hbl), hcs i hi]
    simp [nB, byF, hi]
  have hy1 := nB_bd l (l.length - 2)
  have hy2 := nB_bd l (l.length - 1)
  obtain ⟨y10, y11⟩ := hy1
  obtain ⟨y20, y21⟩ := hy2
  have HRAW := Lib.hid hcs
  clear hB0 hcs
  have hlen1 : decide (((l.length : Nat) : Int) < 14) = false := decide_eq_false (by omega)
  have hlen2 : (n4 l 8 != ((l.length : Nat) : Int) - 14) = false := by simp; omega
  have hs1 : (sumL (l.take (l.length - 2)) != 256 * nB l (l.length - 2) + nB l (l.length - 1)) = false := by
    have e : n2 l (l.length - 2) = nB l (l.length - 2) * 256 + nB l (l.length - 1) := by unfold n2; rw [show l.length - 2 + 1 = l.length - 1 by omega]
    rw [e] at hs
    simp
    omega
  have hge : (14 : Int) ≤ ((l.length : Nat) : Int) := by omega
  have HDL : Hid ((msgOf l).data.length = l.length - 14) := msgOf_len (by omega)
  have HAPP : Hid (∀ (W : World) (r0 : Nat), RK w W w.heap.size → W.heap[r0]? = some (.cells #[] 5 (0, 0)) → w.heap.size < r0 → ∃ pa pn pc w', (∀ ty, (Builtin.append_ #[25, 25] ty #[.slice (some ⟨r0, 0, none⟩) 0 0, .slice (some ⟨b, o + 12, none⟩) (l.length - 14) (cap - 12)]).run Tryd.prog W = .ok (.slice pa pn pc) w') ∧ Out w' w.heap.size (.slice pa pn pc) (msgOf l).data ∧ (∀ (k : Nat) (c : Array Value) (t : TypeId), t ≠ 5 → W.heap[k]? = some (.cells c t (0, 0)) → w'.heap[k]? = some (.cells c t (0, 0))) ∧ Below w.heap.size w w') := fun W r0 hM hr hlt => by
    have hd := HDL.out
    have ho : Out W w.heap.size (.slice (some ⟨r0, 0, none⟩) 0 0) [] := ⟨⟨rfl, .inr ⟨r0, 0, #[], rfl, Nat.le_of_lt hlt, hr, Nat.le_refl _, Nat.zero_le _, rfl, rfl⟩⟩, Nat.le_of_lt (Array.getElem?_eq_some_iff.1 hM.box).1⟩
    have hsub := bytes_sub (HRAW.out) hbl hM.bel 12 (l.length - 14) (cap - 12) (by omega) hl
    obtain ⟨ad', cap', e', hs'⟩ := OBytes.src (l := (msgOf l).data) hsub
    injection e' with e1 e2 e3
    subst e1 e3
    obtain ⟨v', w', h1, h2, h3⟩ := app_bytes ho ⟨b, o + 12, none⟩ (l.length - 14) (cap - 12) (msgOf l).data hd (fun j u hj => by
      by_cases h0 : 0 < (msgOf l).data.length
      · obtain ⟨b', o', e, _, hc⟩ := hs' h0
        cases e
        rw [addr_add]
        exact hc j u hj
      · have hn : (msgOf l).data = [] := List.eq_nil_of_length_eq_zero (by omega)
        rw [hn] at hj
        simp [bcells] at hj) (by simp only [List.length_nil]; omega)
    have hb := ho.grown hM.bel h3 (Nat.le_refl _)
    rw [List.nil_append] at h2
    rcases h2.1.2 with ⟨rfl, _⟩ | ⟨g', c', u', rfl, _⟩
    · exact ⟨_, _, _, w', h1, h2, fun k c t ht hk => ho.box h3 hk ht, hb⟩
    · exact ⟨_, _, _, w', h1, h2, fun k c t ht hk => ho.box h3 hk ht, hb⟩
  have HWR : Hid (∀ W pa pn pc, Out W w.heap.size (.slice pa pn pc) (msgOf l).data → Calls Tryd.prog 9 #[.agg (msC (msgOf l) (.slice pa pn pc))] W fun r w' => r = .returned (.int .i64 (wrongM (msgOf l))) ∧ Below W.heap.size W w') := fun W pa pn pc h => by
    have hb := h.bytes (by rw [HDL.out]; unfold maxLen; omega)
    obtain ⟨ad', cap', e', _⟩ := hb
    injection e' with e1 e2 e3
    subst e2
    exact rwrong_any (msgOf l) pa pc W
  have he3 : 256 * nB l 3 + nB l 4 = n2 l 3 := by have e : n2 l 3 = nB l 3 * 256 + nB l 4 := rfl; omega
  have he6 : 256 * nB l 6 + nB l 7 = n2 l 6 := by have e : n2 l 6 = nB l 6 * 256 + nB l 7 := rfl; omega
  have hx3 : IntKind.i64.wrap (n2 l 3) = n2 l 3 := by have e : n2 l 3 = nB l 3 * 256 + nB l 4 := rfl; have := nB_bd l 3; have := nB_bd l 4; rw [IntKind.wrap_i64]; omega
  have hx6 : IntKind.i64.wrap (n2 l 6) = n2 l 6 := by have e : n2 l 6 = nB l 6 * 256 + nB l 7 := rfl; have := nB_bd l 6; have := nB_bd l 7; rw [IntKind.wrap_i64]; omega
  have hxa : IntKind.i64.wrap (256 * nB l 3) = 256 * nB l 3 := by have := nB_bd l 3; rw [IntKind.wrap_i64]; omega
  have hxb : IntKind.i64.wrap (256 * nB l 6) = 256 * nB l 6 := by have := nB_bd l 6; rw [IntKind.wrap_i64]; omega
  have hxn : ∀ k, IntKind.i64.wrap (nB l k) = nB l k := fun k => by have := nB_bd l k; rw [IntKind.wrap_i64]; omega
  generalize n4 l 8 = g4 at *
  generalize sumL (l.take (l.length - 2)) = sm at *
  have HCEL1 : Hid (∀ W, Below w.heap.size w W → W.cell? ⟨b, o + (l.length - 2), none⟩ = some (.int .u8 (nB l (l.length - 2)))) := fun W h => HCEL.out W _ h (by omega)
  have HCEL2 : Hid (∀ W, Below w.heap.size w W → W.cell? ⟨b, o + (l.length - 1), none⟩ = some (.int .u8 (nB l (l.length - 1)))) := fun W h => HCEL.out W _ h (by omega)
  generalize nB l (l.length - 2) = q1 at *
  generalize nB l (l.length - 1) = q2 at *
  have hw14 : IntKind.i64.wrap (((l.length : Nat) : Int) - 14) = ((l.length : Nat) : Int) - 14 := by rw [IntKind.wrap_i64]; omega
  have hw2 : IntKind.i64.wrap (((l.length : Nat) : Int) - 2) = ((l.length : Nat) : Int) - 2 := by rw [IntKind.wrap_i64]; omega
  have hw1 : IntKind.i64.wrap (((l.length : Nat) : Int) - 1) = ((l.length : Nat) : Int) - 1 := by rw [IntKind.wrap_i64]; omega
  have hq1 : IntKind.i64.wrap q1 = q1 := by rw [IntKind.wrap_i64]; omega
  have hq2 : IntKind.i64.wrap q2 = q2 := by rw [IntKind.wrap_i64]; omega
  have hq3 : IntKind.i64.wrap (256 * q1) = 256 * q1 := by rw [IntKind.wrap_i64]; omega
  have hq4 : IntKind.i64.wrap (256 * q1 + q2) = 256 * q1 + q2 := by rw [IntKind.wrap_i64]; omega
  clear hlen hs
  have HPK := Lib.hid (rk_drew (rk_start w))
  go_enter Tryd.func11, Tryd.ntmps11
  go_wp2_with fail
  refine wp_region_noPanic ?_
  generalize World.alloc w _ = W0 at *
  refine wp_region_held_drew (S := fun w' => w' = W0.drew) (by kernel_rfl) rfl (fun hHeld => ?_)
  generalize W0.drew = V0 at *
  refine take_at 0 9 (v := ?_) rfl rfl (by kernel_rfl) (by kernel_rfl) (by kernel_rfl) (fun _ _ _ h => h) rfl ?_ hHeld ?_
  rotate_left
  · intro w hSw
    go_simp
    try with_reducible rfl
  simp only [List.setIfInBounds_toArray, List.set_cons_zero, List.set_cons_succ]
  refine take_at 1 10 (v := ?_) rfl rfl (by kernel_rfl) (by kernel_rfl) (by kernel_rfl) (fun _ _ _ h => h) rfl ?_ hHeld ?_
  rotate_left
  · intro w hSw
    go_simp
    try with_reducible rfl
  simp only [List.setIfInBounds_toArray, List.set_cons_zero, List.set_cons_succ]
  refine take_at 2 11 (v := ?_) rfl rfl (by kernel_rfl) (by kernel_rfl) (by kernel_rfl) (fun _ _ _ h => h) rfl ?_ hHeld ?_
  rotate_left
  · intro w hSw
    go_simp
    try with_reducible rfl
  simp only [List.setIfInBounds_toArray, List.set_cons_zero, List.set_cons_succ]
  refine take_at 3 12 (v := ?_) rfl rfl (by kernel_rfl) (by kernel_rfl) (by kernel_rfl) (fun _ _ _ h => h) rfl ?_ hHeld ?_
  rotate_left
  · intro w hSw
    go_simp
    try with_reducible rfl
  simp only [List.setIfInBounds_toArray, List.set_cons_zero, List.set_cons_succ]
  refine take_at 5 14 (v := ?_) rfl rfl (by kernel_rfl) (by kernel_rfl) (by kernel_rfl) (fun _ _ _ h => h) rfl ?_ hHeld ?_
  rotate_left
  · intro w hSw
    go_simp
    try with_reducible rfl
  simp only [List.setIfInBounds_toArray, List.set_cons_zero, List.set_cons_succ]
  refine take_at 6 15 (v := ?_) rfl rfl (by kernel_rfl) (by kernel_rfl) (by kernel_rfl) (fun _ _ _ h => h) rfl ?_ hHeld ?_
  rotate_left
  · intro w hSw
    go_simp
    try with_reducible rfl
  simp only [List.setIfInBounds_toArray, List.set_cons_zero, List.set_cons_succ]
  refine wpAnyH_ready (rs := [4]) (by kernel_rfl) (by simp) ?_
  refine AllReadyH.cons rfl (fun K hK => ?_) AllReadyH.nil
  go_simp
  refine (HGET.out V0 HPK.out.bel).mono ?_
  rintro e V1 ⟨rfl, hb1⟩
  rw [hb1]
  refine hK.out _ _ hHeld (fun hHeld => ?_)
  clear hK K hb1
  refine take_at 7 16 (v := ?_) rfl rfl (by kernel_rfl) (by kernel_rfl) (by kernel_rfl) (fun _ _ _ h => h) rfl ?_ hHeld ?_
  rotate_left
  · intro w hSw
    go_simp
    try with_reducible rfl
  simp only [List.setIfInBounds_toArray, List.set_cons_zero, List.set_cons_succ]
  refine take_at 8 17 (v := ?_) rfl rfl (by kernel_rfl) (by kernel_rfl) (by kernel_rfl) (fun _ _ _ h => h) rfl ?_ hHeld ?_
  rotate_left
  · intro w hSw
    go_simp
    try with_reducible rfl
  simp only [List.setIfInBounds_toArray, List.set_cons_zero, List.set_cons_succ]
  refine take_at 9 18 (v := ?_) rfl rfl (by kernel_rfl) (by kernel_rfl) (by kernel_rfl) (fun _ _ _ h => h) rfl ?_ hHeld ?_
  rotate_left
  · intro w hSw
    go_simp
    try with_reducible rfl
  simp only [List.setIfInBounds_toArray, List.set_cons_zero, List.set_cons_succ]
  refine take_at 10 19 (v := ?_) rfl rfl (by kernel_rfl) (by kernel_rfl) (by kernel_rfl) (fun _ _ _ h => h) rfl ?_ hHeld ?_
  rotate_left
  · intro w hSw
    go_simp
    try with_reducible rfl
  simp only [List.setIfInBounds_toArray, List.set_cons_zero, List.set_cons_succ]
  refine take_at 11 20 (v := ?_) rfl rfl (by kernel_rfl) (by kernel_rfl) (by kernel_rfl) (fun _ _ _ h => h) rfl ?_ hHeld ?_
  rotate_left
  · intro w hSw
    go_simp
    try with_reducible rfl
  simp only [List.setIfInBounds_toArray, List.set_cons_zero, List.set_cons_succ]
  refine take_at 12 21 (v := ?_) rfl rfl (by kernel_rfl) (by kernel_rfl) (by kernel_rfl) (fun _ _ _ h => h) rfl ?_ hHeld ?_
  rotate_left
  · intro w hSw
    go_simp
    try with_reducible rfl
  simp only [List.setIfInBounds_toArray, List.set_cons_zero, List.set_cons_succ]
  refine take_at 13 22 (v := ?_) rfl rfl (by kernel_rfl) (by kernel_rfl) (by kernel_rfl) (fun _ _ _ h => h) rfl ?_ hHeld ?_
  rotate_left
  · intro w hSw
    rw [hSw]
    go_simp
    rw [if_pos (by omega), show (((l.length : Nat) : Int) - 2).toNat = l.length - 2 by omega]
    try with_reducible rfl
  simp only [List.setIfInBounds_toArray, List.set_cons_zero, List.set_cons_succ]
  refine take_at 15 24 (v := ?_) rfl rfl (by kernel_rfl) (by kernel_rfl) (by kernel_rfl) (fun _ _ _ h => h) rfl ?_ hHeld ?_
  rotate_left
  · intro w hSw
    go_simp
    try with_reducible rfl
  simp only [List.setIfInBounds_toArray, List.set_cons_zero, List.set_cons_succ]
  refine take_at 16 25 (v := ?_) rfl rfl (by kernel_rfl) (by kernel_rfl) (by kernel_rfl) (fun _ _ _ h => h) rfl ?_ hHeld ?_
  rotate_left
  · intro w hSw
    go_simp
    try with_reducible rfl
  simp only [List.setIfInBounds_toArray, List.set_cons_zero, List.set_cons_succ]
  refine take_at 17 26 (v := ?_) rfl rfl (by kernel_rfl) (by kernel_rfl) (by kernel_rfl) (fun _ _ _ h => h) rfl ?_ hHeld ?_
  rotate_left
  · intro w hSw
    go_simp
    try with_reducible rfl
  simp only [List.setIfInBounds_toArray, List.set_cons_zero, List.set_cons_succ]
  refine take_at 18 27 (v := ?_) rfl rfl (by kernel_rfl) (by kernel_rfl) (by kernel_rfl) (fun _ _ _ h => h) rfl ?_ hHeld ?_
  rotate_left
  · intro w hSw
    go_simp
    rw [if_pos (by omega), show (((l.length : Nat) : Int) - 2).toNat = l.length - 2 by omega]
    try with_reducible rfl
  simp only [List.setIfInBounds_toArray, List.set_cons_zero, List.set_cons_succ]
  refine take_at 19 28 (v := ?_) rfl rfl (by kernel_rfl) (by kernel_rfl) (by kernel_rfl) (fun _ _ _ h => h) rfl ?_ hHeld ?_
  rotate_left
  · intro w hSw
    rw [hSw]
    have y := HCEL1.out V0 HPK.out.bel
    go_simp
    try with_reducible rfl
  simp only [List.setIfInBounds_toArray, List.set_cons_zero, List.set_cons_succ]
  refine take_at 20 29 (v := ?_) rfl rfl (by kernel_rfl) (by kernel_rfl) (by kernel_rfl) (fun _ _ _ h => h) rfl ?_ hHeld ?_
  rotate_left
  · intro w hSw
    go_simp
    try with_reducible rfl
  simp only [List.setIfInBounds_toArray, List.set_cons_zero, List.set_cons_succ]
  refine take_at 21 30 (v := ?_) rfl rfl (by kernel_rfl) (by kernel_rfl) (by kernel_rfl) (fun _ _ _ h => h) rfl ?_ hHeld ?_
  rotate_left
  · intro w hSw
    go_simp
    try with_reducible rfl
  simp only [List.setIfInBounds_toArray, List.set_cons_zero, List.set_cons_succ]
  refine take_at 22 31 (v := ?_) rfl rfl (by kernel_rfl) (by kernel_rfl) (by kernel_rfl) (fun _ _ _ h => h) rfl ?_ hHeld ?_
  rotate_left
  · intro w hSw
    go_simp
    try with_reducible rfl
  simp only [List.setIfInBounds_toArray, List.set_cons_zero, List.set_cons_succ]
  refine take_at 23 32 (v := ?_) rfl rfl (by kernel_rfl) (by kernel_rfl) (by kernel_rfl) (fun _ _ _ h => h) rfl ?_ hHeld ?_
  rotate_left
  · intro w hSw
    go_simp
    try with_reducible rfl
  simp only [List.setIfInBounds_toArray, List.set_cons_zero, List.set_cons_succ]
  refine take_at 24 33 (v := ?_) rfl rfl (by kernel_rfl) (by kernel_rfl) (by kernel_rfl) (fun _ _ _ h => h) rfl ?_ hHeld ?_
  rotate_left
  · intro w hSw
    go_simp
    try with_reducible rfl
  simp only [List.setIfInBounds_toArray, List.set_cons_zero, List.set_cons_succ]
  refine take_at 25 34 (v := ?_) rfl rfl (by kernel_rfl) (by kernel_rfl) (by kernel_rfl) (fun _ _ _ h => h) rfl ?_ hHeld ?_
  rotate_left
  · intro w hSw
    go_simp
    rw [if_pos (by omega)]
    try with_reducible rfl
  simp only [List.setIfInBounds_toArray, List.set_cons_zero, List.set_cons_succ]
  refine take_at 26 35 (v := ?_) rfl rfl (by kernel_rfl) (by kernel_rfl) (by kernel_rfl) (fun _ _ _ h => h) rfl ?_ hHeld ?_
  rotate_left
  · intro w hSw
    rw [hSw]
    have y := HCEL2.out V0 HPK.out.bel
    go_simp
    try with_reducible rfl
  simp only [List.setIfInBounds_toArray, List.set_cons_zero, List.set_cons_succ]
  refine take_at 27 36 (v := ?_) rfl rfl (by kernel_rfl) (by kernel_rfl) (by kernel_rfl) (fun _ _ _ h => h) rfl ?_ hHeld ?_
  rotate_left
  · intro w hSw
    go_simp
    try with_reducible rfl
  simp only [List.setIfInBounds_toArray, List.set_cons_zero, List.set_cons_succ]
  refine take_at 28 37 (v := ?_) rfl rfl (by kernel_rfl) (by kernel_rfl) (by kernel_rfl) (fun _ _ _ h => h) rfl ?_ hHeld ?_
  rotate_left
  · intro w hSw
    go_simp
    try with_reducible rfl
  simp only [List.setIfInBounds_toArray, List.set_cons_zero, List.set_cons_succ]
  refine wpAnyH_ready (rs := [14]) (by kernel_rfl) (by simp) ?_
  refine AllReadyH.cons rfl (fun K hK => ?_) AllReadyH.nil
  go_simp
  refine (HSUM.out V0 HPK.out.bel).mono ?_
  rintro e V1 ⟨rfl, hb1⟩
  rw [hb1]
  refine hK.out _ _ hHeld (fun hHeld => ?_)
  clear hK K hb1
  refine take_at 29 38 (v := ?_) rfl rfl (by kernel_rfl) (by kernel_rfl) (by kernel_rfl) (fun _ _ _ h => h) rfl ?_ hHeld ?_
  rotate_left
  · intro w hSw
    go_simp
    try with_reducible rfl
  simp only [List.setIfInBounds_toArray, List.set_cons_zero, List.set_cons_succ]
  refine take_at 30 39 (v := ?_) rfl rfl (by kernel_rfl) (by kernel_rfl) (by kernel_rfl) (fun _ _ _ h => h) rfl ?_ hHeld ?_
  rotate_left
  · intro w hSw
    go_simp
    try with_reducible rfl
  simp only [List.setIfInBounds_toArray, List.set_cons_zero, List.set_cons_succ]
  refine wpAnyH_done (by kernel_rfl) ?_ _
  refine NoPanic.normal ?_
  clear hHeld
  go_wp2_with fail
  clear hs1 hq1 hq2 hq3 hq4 y10 y11 y20 y21 hw14 hw1 HCEL1 HCEL2 HGET HSUM hlen1 hlen2
  refine wp_region_noPanic ?_
  have HM0 : Hid (RK w V0.drew w.heap.size) := HPK.out.next (Below.refl _ _).drew
  clear HPK
  refine wp_region_held_drew (S := fun w' => Below w.heap.size w w') (by kernel_rfl) HM0.out.bel (fun hHeld => ?_)
  generalize hU : V0.drew = U0 at *
  clear hU V0 W0
  refine take_at 0 41 (v := ?_) rfl rfl (by kernel_rfl) (by kernel_rfl) (by kernel_rfl) (fun _ _ _ h => h) rfl ?_ hHeld ?_
  rotate_left
  · intro w hSw
    go_simp
    try with_reducible rfl
  simp only [List.setIfInBounds_toArray, List.set_cons_zero, List.set_cons_succ]
  refine take_at 1 42 (v := ?_) rfl rfl (by kernel_rfl) (by kernel_rfl) (by kernel_rfl) (fun _ _ _ h => h) rfl ?_ hHeld ?_
  rotate_left
  · intro w hSw
    go_simp
    rw [if_pos (by omega)]
    try with_reducible rfl
  simp only [List.setIfInBounds_toArray, List.set_cons_zero, List.set_cons_succ]
  refine take_at 2 43 (v := ?_) rfl rfl (by kernel_rfl) (by kernel_rfl) (by kernel_rfl) (fun _ _ _ h => h) rfl ?_ hHeld ?_
  rotate_left
  · intro w hSw
    have y := HCEL.out _ 0 hSw (by omega)
    rw [Nat.add_zero] at y
    go_simp
    try with_reducible rfl
  simp only [List.setIfInBounds_toArray, List.set_cons_zero, List.set_cons_succ]
  refine take_at 3 44 (v := ?_) rfl rfl (by kernel_rfl) (by kernel_rfl) (by kernel_rfl) (fun _ _ _ h => h) rfl ?_ hHeld ?_
  rotate_left
  · intro w hSw
    go_simp
    try with_reducible rfl
  simp only [List.setIfInBounds_toArray, List.set_cons_zero, List.set_cons_succ]
  refine take_at 4 45 (v := ?_) rfl rfl (by kernel_rfl) (by kernel_rfl) (by kernel_rfl) (fun _ _ _ h => h) rfl ?_ hHeld ?_
  rotate_left
  · intro w hSw
    go_simp
    try with_reducible rfl
  simp only [List.setIfInBounds_toArray, List.set_cons_zero, List.set_cons_succ]
  refine take_at 5 46 (v := ?_) rfl rfl (by kernel_rfl) (by kernel_rfl) (by kernel_rfl) (fun _ _ _ h => h) rfl ?_ hHeld ?_
  rotate_left
  · intro w hSw
    go_simp
    rw [if_pos (by omega)]
    try with_reducible rfl
  simp only [List.setIfInBounds_toArray, List.set_cons_zero, List.set_cons_succ]
  refine take_at 6 47 (v := ?_) rfl rfl (by kernel_rfl) (by kernel_rfl) (by kernel_rfl) (fun _ _ _ h => h) rfl ?_ hHeld ?_
  rotate_left
  · intro w hSw
    have y := HCEL.out _ 1 hSw (by omega)
    go_simp
    try with_reducible rfl
  simp only [List.setIfInBounds_toArray, List.set_cons_zero, List.set_cons_succ]
  refine take_at 7 48 (v := ?_) rfl rfl (by kernel_rfl) (by kernel_rfl) (by kernel_rfl) (fun _ _ _ h => h) rfl ?_ hHeld ?_
  rotate_left
  · intro w hSw
    go_simp
    try with_reducible rfl
  simp only [List.setIfInBounds_toArray, List.set_cons_zero, List.set_cons_succ]
  refine take_at 8 49 (v := ?_) rfl rfl (by kernel_rfl) (by kernel_rfl) (by kernel_rfl) (fun _ _ _ h => h) rfl ?_ hHeld ?_
  rotate_left
  · intro w hSw
    go_simp
    try with_reducible rfl
  simp only [List.setIfInBounds_toArray, List.set_cons_zero, List.set_cons_succ]
  refine take_at 9 50 (v := ?_) rfl rfl (by kernel_rfl) (by kernel_rfl) (by kernel_rfl) (fun _ _ _ h => h) rfl ?_ hHeld ?_
  rotate_left
  · intro w hSw
    go_simp
    rw [if_pos (by omega)]
    try with_reducible rfl
  simp only [List.setIfInBounds_toArray, List.set_cons_zero, List.set_cons_succ]
  refine take_at 10 51 (v := ?_) rfl rfl (by kernel_rfl) (by kernel_rfl) (by kernel_rfl) (fun _ _ _ h => h) rfl ?_ hHeld ?_
  rotate_left
  · intro w hSw
    have y := HCEL.out _ 2 hSw (by omega)
    go_simp
    try with_reducible rfl
  simp only [List.setIfInBounds_toArray, List.set_cons_zero, List.set_cons_succ]
  refine take_at 11 52 (v := ?_) rfl rfl (by kernel_rfl) (by kernel_rfl) (by kernel_rfl) (fun _ _ _ h => h) rfl ?_ hHeld ?_
  rotate_left
  · intro w hSw
    go_simp
    try with_reducible rfl
  simp only [List.setIfInBounds_toArray, List.set_cons_zero, List.set_cons_succ]
  refine take_at 12 53 (v := ?_) rfl rfl (by kernel_rfl) (by kernel_rfl) (by kernel_rfl) (fun _ _ _ h => h) rfl ?_ hHeld ?_
  rotate_left
  · intro w hSw
    go_simp
    try with_reducible rfl
  simp only [List.setIfInBounds_toArray, List.set_cons_zero, List.set_cons_succ]
  refine take_at 13 54 (v := ?_) rfl rfl (by kernel_rfl) (by kernel_rfl) (by kernel_rfl) (fun _ _ _ h => h) rfl ?_ hHeld ?_
  rotate_left
  · intro w hSw
    go_simp
    rw [if_pos (by omega)]
    try with_reducible rfl
  simp only [List.setIfInBounds_toArray, List.set_cons_zero, List.set_cons_succ]
  refine take_at 14 55 (v := ?_) rfl rfl (by kernel_rfl) (by kernel_rfl) (by kernel_rfl) (fun _ _ _ h => h) rfl ?_ hHeld ?_
  rotate_left
  · intro w hSw
    have y := HCEL.out _ 3 hSw (by omega)
    go_simp
    try with_reducible rfl
  simp only [List.setIfInBounds_toArray, List.set_cons_zero, List.set_cons_succ]
  refine take_at 15 56 (v := ?_) rfl rfl (by kernel_rfl) (by kernel_rfl) (by kernel_rfl) (fun _ _ _ h => h) rfl ?_ hHeld ?_
  rotate_left
  · intro w hSw
    go_simp
    try with_reducible rfl
  simp only [List.setIfInBounds_toArray, List.set_cons_zero, List.set_cons_succ]
  refine take_at 16 57 (v := ?_) rfl rfl (by kernel_rfl) (by kernel_rfl) (by kernel_rfl) (fun _ _ _ h => h) rfl ?_ hHeld ?_
  rotate_left
  · intro w hSw
    go_simp
    try with_reducible rfl
  simp only [List.setIfInBounds_toArray, List.set_cons_zero, List.set_cons_succ]
  refine take_at 17 58 (v := ?_) rfl rfl (by kernel_rfl) (by kernel_rfl) (by kernel_rfl) (fun _ _ _ h => h) rfl ?_ hHeld ?_
  rotate_left
  · intro w hSw
    go_simp
    try with_reducible rfl
  simp only [List.setIfInBounds_toArray, List.set_cons_zero, List.set_cons_succ]
  refine take_at 18 59 (v := ?_) rfl rfl (by kernel_rfl) (by kernel_rfl) (by kernel_rfl) (fun _ _ _ h => h) rfl ?_ hHeld ?_
  rotate_left
  · intro w hSw
    go_simp
    rw [if_pos (by omega)]
    try with_reducible rfl
  simp only [List.setIfInBounds_toArray, List.set_cons_zero, List.set_cons_succ]
  refine take_at 19 60 (v := ?_) rfl rfl (by kernel_rfl) (by kernel_rfl) (by kernel_rfl) (fun _ _ _ h => h) rfl ?_ hHeld ?_
  rotate_left
  · intro w hSw
    have y := HCEL.out _ 4 hSw (by omega)
    go_simp
    try with_reducible rfl
  simp only [List.setIfInBounds_toArray, List.set_cons_zero, List.set_cons_succ]
  refine take_at 20 61 (v := ?_) rfl rfl (by kernel_rfl) (by kernel_rfl) (by kernel_rfl) (fun _ _ _ h => h) rfl ?_ hHeld ?_
  rotate_left
  · intro w hSw
    go_simp
    try with_reducible rfl
  simp only [List.setIfInBounds_toArray, List.set_cons_zero, List.set_cons_succ]
  refine take_at 21 62 (v := ?_) rfl rfl (by kernel_rfl) (by kernel_rfl) (by kernel_rfl) (fun _ _ _ h => h) rfl ?_ hHeld ?_
  rotate_left
  · intro w hSw
    go_simp
    try with_reducible rfl
  simp only [List.setIfInBounds_toArray, List.set_cons_zero, List.set_cons_succ]
  refine take_at 22 63 (v := ?_) rfl rfl (by kernel_rfl) (by kernel_rfl) (by kernel_rfl) (fun _ _ _ h => h) rfl ?_ hHeld ?_
  rotate_left
  · intro w hSw
    go_simp
    try with_reducible rfl
  simp only [List.setIfInBounds_toArray, List.set_cons_zero, List.set_cons_succ]
  refine take_at 23 64 (v := ?_) rfl rfl (by kernel_rfl) (by kernel_rfl) (by kernel_rfl) (fun _ _ _ h => h) rfl ?_ hHeld ?_
  rotate_left
  · intro w hSw
    go_simp
    rw [if_pos (by omega)]
    try with_reducible rfl
  simp only [List.setIfInBounds_toArray, List.set_cons_zero, List.set_cons_succ]
  refine take_at 24 65 (v := ?_) rfl rfl (by kernel_rfl) (by kernel_rfl) (by kernel_rfl) (fun _ _ _ h => h) rfl ?_ hHeld ?_
  rotate_left
  · intro w hSw
    have y := HCEL.out _ 5 hSw (by omega)
    go_simp
    try with_reducible rfl
  simp only [List.setIfInBounds_toArray, List.set_cons_zero, List.set_cons_succ]
  refine take_at 25 66 (v := ?_) rfl rfl (by kernel_rfl) (by kernel_rfl) (by kernel_rfl) (fun _ _ _ h => h) rfl ?_ hHeld ?_
  rotate_left
  · intro w hSw
    go_simp
    try with_reducible rfl
  simp only [List.setIfInBounds_toArray, List.set_cons_zero, List.set_cons_succ]
  refine take_at 26 67 (v := ?_) rfl rfl (by kernel_rfl) (by kernel_rfl) (by kernel_rfl) (fun _ _ _ h => h) rfl ?_ hHeld ?_
  rotate_left
  · intro w hSw
    go_simp
    try with_reducible rfl
  simp only [List.setIfInBounds_toArray, List.set_cons_zero, List.set_cons_succ]
  refine take_at 27 68 (v := ?_) rfl rfl (by kernel_rfl) (by kernel_rfl) (by kernel_rfl) (fun _ _ _ h => h) rfl ?_ hHeld ?_
  rotate_left
  · intro w hSw
    go_simp
    rw [if_pos (by omega)]
    try with_reducible rfl
  simp only [List.setIfInBounds_toArray, List.set_cons_zero, List.set_cons_succ]
  refine take_at 28 69 (v := ?_) rfl rfl (by kernel_rfl) (by kernel_rfl) (by kernel_rfl) (fun _ _ _ h => h) rfl ?_ hHeld ?_
  rotate_left
  · intro w hSw
    have y := HCEL.out _ 6 hSw (by omega)
    go_simp
    try with_reducible rfl
  simp only [List.setIfInBounds_toArray, List.set_cons_zero, List.set_cons_succ]
  refine take_at 29 70 (v := ?_) rfl rfl (by kernel_rfl) (by kernel_rfl) (by kernel_rfl) (fun _ _ _ h => h) rfl ?_ hHeld ?_
  rotate_left
  · intro w hSw
    go_simp
    try with_reducible rfl
  simp only [List.setIfInBounds_toArray, List.set_cons_zero, List.set_cons_succ]
  refine take_at 30 71 (v := ?_) rfl rfl (by kernel_rfl) (by kernel_rfl) (by kernel_rfl) (fun _ _ _ h => h) rfl ?_ hHeld ?_
  rotate_left
  · intro w hSw
    go_simp
    try with_reducible rfl
  simp only [List.setIfInBounds_toArray, List.set_cons_zero, List.set_cons_succ]
  refine take_at 31 72 (v := ?_) rfl rfl (by kernel_rfl) (by kernel_rfl) (by kernel_rfl) (fun _ _ _ h => h) rfl ?_ hHeld ?_
  rotate_left
  · intro w hSw
    go_simp
    try with_reducible rfl
  simp only [List.setIfInBounds_toArray, List.set_cons_zero, List.set_cons_succ]
  refine take_at 32 73 (v := ?_) rfl rfl (by kernel_rfl) (by kernel_rfl) (by kernel_rfl) (fun _ _ _ h => h) rfl ?_ hHeld ?_
  rotate_left
  · intro w hSw
    go_simp
    rw [if_pos (by omega)]
    try with_reducible rfl
  simp only [List.setIfInBounds_toArray, List.set_cons_zero, List.set_cons_succ]
  refine take_at 33 74 (v := ?_) rfl rfl (by kernel_rfl) (by kernel_rfl) (by kernel_rfl) (fun _ _ _ h => h) rfl ?_ hHeld ?_
  rotate_left
  · intro w hSw
    have y := HCEL.out _ 7 hSw (by omega)
    go_simp
    try with_reducible rfl
  simp only [List.setIfInBounds_toArray, List.set_cons_zero, List.set_cons_succ]
  refine take_at 34 75 (v := ?_) rfl rfl (by kernel_rfl) (by kernel_rfl) (by kernel_rfl) (fun _ _ _ h => h) rfl ?_ hHeld ?_
  rotate_left
  · intro w hSw
    go_simp
    try with_reducible rfl
  simp only [List.setIfInBounds_toArray, List.set_cons_zero, List.set_cons_succ]
  refine take_at 35 76 (v := ?_) rfl rfl (by kernel_rfl) (by kernel_rfl) (by kernel_rfl) (fun _ _ _ h => h) rfl ?_ hHeld ?_
  rotate_left
  · intro w hSw
    go_simp
    try with_reducible rfl
  simp only [List.setIfInBounds_toArray, List.set_cons_zero, List.set_cons_succ]
  refine take_at 36 77 (v := ?_) rfl rfl (by kernel_rfl) (by kernel_rfl) (by kernel_rfl) (fun _ _ _ h => h) rfl ?_ hHeld ?_
  rotate_left
  · intro w hSw
    go_simp
    try with_reducible rfl
  simp only [List.setIfInBounds_toArray, List.set_cons_zero, List.set_cons_succ]
  refine take_at 38 79 (v := ?_) rfl rfl (by kernel_rfl) (by kernel_rfl) (by kernel_rfl) (fun _ _ _ h => h) rfl ?_ hHeld ?_
  rotate_left
  · intro w hSw
    go_simp
    try with_reducible rfl
  simp only [List.setIfInBounds_toArray, List.set_cons_zero, List.set_cons_succ]
  refine take_at 39 80 (v := ?_) rfl rfl (by kernel_rfl) (by kernel_rfl) (by kernel_rfl) (fun _ _ _ h => h) rfl ?_ hHeld ?_
  rotate_left
  · intro w hSw
    go_simp
    try with_reducible rfl
  simp only [List.setIfInBounds_toArray, List.set_cons_zero, List.set_cons_succ]
  refine take_at 40 81 (v := ?_) rfl rfl (by kernel_rfl) (by kernel_rfl) (by kernel_rfl) (fun _ _ _ h => h) rfl ?_ hHeld ?_
  rotate_left
  · intro w hSw
    go_simp
    try with_reducible rfl
  simp only [List.setIfInBounds_toArray, List.set_cons_zero, List.set_cons_succ]
  refine take_at 41 82 (v := ?_) rfl rfl (by kernel_rfl) (by kernel_rfl) (by kernel_rfl) (fun _ _ _ h => h) rfl ?_ hHeld ?_
  rotate_left
  · intro w hSw
    go_simp
    rw [if_pos (by omega), if_pos (by omega), if_neg (by omega), show (((l.length : Nat) : Int) - 2).toNat - 12 = l.length - 14 by omega]
    try with_reducible rfl
  simp only [List.setIfInBounds_toArray, List.set_cons_zero, List.set_cons_succ]
  refine wpAnyH_ready (rs := [37, 44]) (by kernel_rfl) (by simp) ?_
  refine AllReadyH.cons rfl (fun K hK => ?_) (AllReadyH.cons rfl (fun K hK => ?_) AllReadyH.nil)
  · go_simp
    have hb := oalloc U0 (.cells #[] 5)
    have hr0 : w.heap.size < U0.heap.size := (Array.getElem?_eq_some_iff.1 HM0.out.box).1
    have HE1 : Hid ((U0.alloc (.cells #[] 5)).heap[U0.heap.size]? = some (.cells #[] 5 (0, 0))) := heap_alloc_new U0 _
    have HM1 := Lib.hid (HM0.out.next hb)
    have hH := HM1.out.bel
    generalize U0.heap.size = r0 at *
    generalize World.alloc U0 _ = V1 at *
    refine hK.out _ _ hH (fun hHeld => ?_)
    clear hK K hb hH HM0
    refine wpAnyH_ready (rs := [42, 44]) (by kernel_rfl) (by simp) ?_
    refine AllReadyH.cons rfl (fun K hK => ?_) (AllReadyH.cons rfl (fun K hK => ?_) AllReadyH.nil)
    · obtain ⟨pa, pn, pc, V2, happ, ho, hbx, hbel⟩ := HAPP.out V1 r0 HM1.out HE1.out hr0
      have HA := Lib.hid happ
      have HO2 := Lib.hid ho
      have HM2 : Hid (RK w V2 w.heap.size) := ⟨hbel, hbx _ _ _ (by decide) HM1.out.box⟩
      clear happ ho hbx hbel
      refine step_app_eq (by rfl) 83 (by rfl) _ _ _ _ (by rfl) _ _ (by rfl) (by rfl) HA.out ?_
      simp only [List.setIfInBounds_toArray, List.set_cons_zero, List.set_cons_succ]
      refine hK.out _ _ HM2.out.bel (fun hHeld => ?_)
      clear hK K HA HM1 HE1
      refine take_at 43 84 (v := ?_) rfl rfl (by kernel_rfl) (by kernel_rfl) (by kernel_rfl) (fun _ _ _ h => h) rfl ?_ hHeld ?_
      rotate_left
      · intro w hSw
        go_simp
        try with_reducible rfl
      simp only [List.setIfInBounds_toArray, List.set_cons_zero, List.set_cons_succ]
      refine wpAnyH_ready (rs := [44]) (by kernel_rfl) (by simp) ?_
      refine AllReadyH.cons rfl (fun K hK => ?_) AllReadyH.nil
      go_simp
      have hb := oalloc V2 (.cells #[.int .i64 0, .int .i64 0, .int .i64 0, .int .i64 0, .int .i64 0, .int .i64 0, .slice none 0 0] 27)
      have HG3 : Hid ((V2.alloc (.cells #[.int .i64 0, .int .i64 0, .int .i64 0, .int .i64 0, .int .i64 0, .int .i64 0, .slice none 0 0] 27)).heap[V2.heap.size]? = some (.cells zeroA 27 (0, 0))) := heap_alloc_new V2 _
      have hgz : w.heap.size < V2.heap.size := (Array.getElem?_eq_some_iff.1 HM2.out.box).1
      have HM3 := Lib.hid (HM2.out.next hb)
      have HO3 := Lib.hid (HO2.out.below hb (Nat.le_refl _))
      have hH := HM3.out.bel
      generalize V2.heap.size = g at *
      generalize World.alloc V2 _ = V3 at *
      refine hK.out _ _ hH (fun hHeld => ?_)
      clear hK K hb hH HM2
      refine wpAnyH_ready (rs := [45]) (by kernel_rfl) (by simp) ?_
      refine AllReadyH.cons rfl (fun K hK => ?_) AllReadyH.nil
      have hH : Below w.heap.size w (V3.setRow g #[.int .i64 (nB l 0), .int .i64 (nB l 1), .int .i64 (nB l 2), .int .i64 (n2 l 3), .int .i64 (nB l 5), .int .i64 (n2 l 6), .slice pa pn pc]) := below_setRow HM3.out.bel (by omega) _
      refine step_store_row (by rfl) (by rfl) 27 _ _ (by rfl) g #[.int .i64 (nB l 0), .int .i64 (nB l 1), .int .i64 (nB l 2), .int .i64 (n2 l 3), .int .i64 (nB l 5), .int .i64 (n2 l 6), .slice pa pn pc] (by rfl) (by rfl) 27 zeroA HG3.out (msSize (msgOf l) _) rfl (msAll (msgOf l) _ _ _) ?_
      have HX : Hid ((V3.setRow g #[.int .i64 (nB l 0), .int .i64 (nB l 1), .int .i64 (nB l 2), .int .i64 (n2 l 3), .int .i64 (nB l 5), .int .i64 (n2 l 6), .slice pa pn pc]).heap[g]? = some (.cells (msC (msgOf l) (.slice pa pn pc)) 27 (0, 0))) := setRow_heap _ _ _ _ _ _ HG3.out
      have HMX : Hid (RK w (V3.setRow g #[.int .i64 (nB l 0), .int .i64 (nB l 1), .int .i64 (nB l 2), .int .i64 (n2 l 3), .int .i64 (nB l 5), .int .i64 (n2 l 6), .slice pa pn pc]) w.heap.size) := ⟨hH, (setRow_other _ _ _ _ (by omega)).trans HM3.out.box⟩
      have HOX : Hid (Out (V3.setRow g #[.int .i64 (nB l 0), .int .i64 (nB l 1), .int .i64 (nB l 2), .int .i64 (n2 l 3), .int .i64 (nB l 5), .int .i64 (n2 l 6), .slice pa pn pc]) w.heap.size (.slice pa pn pc) (msgOf l).data) := HO3.out.stay (by simp) (fun k hk => setRow_other _ _ _ _ (fun e => HO3.out.other HG3.out (by decide) (by rw [hk, e])))
      refine hK.out _ _ hH (fun hHeld => ?_)
      clear hK K hH hHeld HG3 HM3 HO3
      refine wpAnyH_done (by kernel_rfl) ?_ _
      refine NoPanic.normal ?_
      generalize World.setRow V3 g _ = X at *
      by_cases hw : wrongM (msgOf l) = 0
      · have hw1 : (wrongM (msgOf l) != 0) = false := by rw [hw]; rfl
        have HW := Lib.hid hw
        clear hw HAPP
        go_wp2_with (first | (go_at_call 9; refine (HWR.out X pa pn pc HOX.out).mono ?_; rintro e w2 ⟨rfl, hb2⟩; have HM2 := Lib.hid (HMX.out.next hb2); have HX2 := Lib.hid ((hb2.block _ (Array.getElem?_eq_some_iff.1 HX.out).1).trans HX.out); have HO2 := Lib.hid (HOX.out.below hb2 (Nat.le_refl _)); clear hb2) | (refine wpList_load_row rfl 27 _ rfl g rfl 27 (msC (msgOf l) (.slice pa pn pc)) (0, 0) _ HX.out Tryd.underlying27 rfl (msSize _ _) ?_) | (refine wpList_load_row rfl 27 _ rfl g rfl 27 (msC (msgOf l) (.slice pa pn pc)) (0, 0) _ HX2.out Tryd.underlying27 rfl (msSize _ _) ?_) | (refine wpList_store_row rfl 27 _ _ rfl w.heap.size (msC (msgOf l) (.slice pa pn pc)) rfl rfl 27 zeroA HM2.out.box (msSize _ _) rfl (msAll _ _ _ _) ?_))
        refine bodyPost_ret (v := .tuple #[.agg (msC (msgOf l) (.slice pa pn pc)), .int .i64 0]) (res_q rfl rfl (setRow_heap _ _ _ _ _ _ HM2.out.box) rfl) rfl ⟨below_setRow HM2.out.bel (Nat.le_refl _) _, fun h => absurd HW.out h, fun _ => ⟨.slice pa pn pc, rfl, ?_⟩⟩
        exact HO2.out.stay (by simp) (fun k hk => setRow_other _ _ _ _ (fun e => HO2.out.other HM2.out.box (by decide) (by rw [hk, e])))
      · have hw1 : (wrongM (msgOf l) != 0) = true := bne_iff_ne.2 hw
        have HW := Lib.hid hw
        clear hw HAPP
        go_wp2_with (first | (go_at_call 9; refine (HWR.out X pa pn pc HOX.out).mono ?_; rintro e w2 ⟨rfl, hb2⟩; have HM2 := Lib.hid (HMX.out.next hb2); have HX2 := Lib.hid ((hb2.block _ (Array.getElem?_eq_some_iff.1 HX.out).1).trans HX.out); have HO2 := Lib.hid (HOX.out.below hb2 (Nat.le_refl _)); clear hb2) | (refine wpList_load_row rfl 27 _ rfl g rfl 27 (msC (msgOf l) (.slice pa pn pc)) (0, 0) _ HX.out Tryd.underlying27 rfl (msSize _ _) ?_) | (refine wpList_store_row rfl 27 _ _ rfl w.heap.size zeroA rfl rfl 27 zeroA HM2.out.box zSize rfl zAll ?_))
        exact bodyPost_ret (v := .tuple #[.agg zeroA, .int .i64 (wrongM (msgOf l))]) (res_q rfl rfl (setRow_heap _ _ _ _ _ _ HM2.out.box) rfl) rfl ⟨below_setRow HM2.out.bel (Nat.le_refl _) _, fun _ => rfl, fun h => absurd h HW.out⟩
    · go_simp
      have hb := oalloc V1 (.cells #[.int .i64 0, .int .i64 0, .int .i64 0, .int .i64 0, .int .i64 0, .int .i64 0, .slice none 0 0] 27)
      have HG2 : Hid ((V1.alloc (.cells #[.int .i64 0, .int .i64 0, .int .i64 0, .int .i64 0, .int .i64 0, .int .i64 0, .slice none 0 0] 27)).heap[V1.heap.size]? = some (.cells zeroA 27 (0, 0))) := heap_alloc_new V1 _
      have hgz : w.heap.size < V1.heap.size := (Array.getElem?_eq_some_iff.1 HM1.out.box).1
      have HM2 := Lib.hid (HM1.out.next hb)
      have HE2 := Lib.hid ((hb.block _ (Array.getElem?_eq_some_iff.1 HE1.out).1).trans HE1.out)
      have hH := HM2.out.bel
      generalize V1.heap.size = g at *
      generalize World.alloc V1 _ = V2 at *
      refine hK.out _ _ hH (fun hHeld => ?_)
      clear hK K hb hH HM1
      refine wpAnyH_ready (rs := [42]) (by kernel_rfl) (by simp) ?_
      refine AllReadyH.cons rfl (fun K hK => ?_) AllReadyH.nil
      obtain ⟨pa, pn, pc, V3, happ, ho, hbx, hbel⟩ := HAPP.out V2 r0 HM2.out HE2.out hr0
      have HA := Lib.hid happ
      have HO3 := Lib.hid ho
      have HM3 : Hid (RK w V3 w.heap.size) := ⟨hbel, hbx _ _ _ (by decide) HM2.out.box⟩
      have HG3 := Lib.hid (hbx _ _ _ (by decide) HG2.out)
      clear happ ho hbx hbel
      refine step_app_eq (by rfl) 83 (by rfl) _ _ _ _ (by rfl) _ _ (by rfl) (by rfl) HA.out ?_
      simp only [List.setIfInBounds_toArray, List.set_cons_zero, List.set_cons_succ]
      refine hK.out _ _ HM3.out.bel (fun hHeld => ?_)
      clear hK K HA HM2 HE2
      refine take_at 43 84 (v := ?_) rfl rfl (by kernel_rfl) (by kernel_rfl) (by kernel_rfl) (fun _ _ _ h => h) rfl ?_ hHeld ?_
      rotate_left
      · intro w hSw
        go_simp
        try with_reducible rfl
      simp only [List.setIfInBounds_toArray, List.set_cons_zero, List.set_cons_succ]
      refine wpAnyH_ready (rs := [45]) (by kernel_rfl) (by simp) ?_
      refine AllReadyH.cons rfl (fun K hK => ?_) AllReadyH.nil
      have hH : Below w.heap.size w (V3.setRow g #[.int .i64 (nB l 0), .int .i64 (nB l 1), .int .i64 (nB l 2), .int .i64 (n2 l 3), .int .i64 (nB l 5), .int .i64 (n2 l 6), .slice pa pn pc]) := below_setRow HM3.out.bel (by omega) _
      refine step_store_row (by rfl) (by rfl) 27 _ _ (by rfl) g #[.int .i64 (nB l 0), .int .i64 (nB l 1), .int .i64 (nB l 2), .int .i64 (n2 l 3), .int .i64 (nB l 5), .int .i64 (n2 l 6), .slice pa pn pc] (by rfl) (by rfl) 27 zeroA HG3.out (msSize (msgOf l) _) rfl (msAll (msgOf l) _ _ _) ?_
      have HX : Hid ((V3.setRow g #[.int .i64 (nB l 0), .int .i64 (nB l 1), .int .i64 (nB l 2), .int .i64 (n2 l 3), .int .i64 (nB l 5), .int .i64 (n2 l 6), .slice pa pn pc]).heap[g]? = some (.cells (msC (msgOf l) (.slice pa pn pc)) 27 (0, 0))) := setRow_heap _ _ _ _ _ _ HG3.out
      have HMX : Hid (RK w (V3.setRow g #[.int .i64 (nB l 0), .int .i64 (nB l 1), .int .i64 (nB l 2), .int .i64 (n2 l 3), .int .i64 (nB l 5), .int .i64 (n2 l 6), .slice pa pn pc]) w.heap.size) := ⟨hH, (setRow_other _ _ _ _ (by omega)).trans HM3.out.box⟩
      have HOX : Hid (Out (V3.setRow g #[.int .i64 (nB l 0), .int .i64 (nB l 1), .int .i64 (nB l 2), .int .i64 (n2 l 3), .int .i64 (nB l 5), .int .i64 (n2 l 6), .slice pa pn pc]) w.heap.size (.slice pa pn pc) (msgOf l).data) := HO3.out.stay (by simp) (fun k hk => setRow_other _ _ _ _ (fun e => HO3.out.other HG3.out (by decide) (by rw [hk, e])))
      refine hK.out _ _ hH (fun hHeld => ?_)
      clear hK K hH hHeld HG3 HM3 HO3
      refine wpAnyH_done (by kernel_rfl) ?_ _
      refine NoPanic.normal ?_
      generalize World.setRow V3 g _ = X at *
      by_cases hw : wrongM (msgOf l) = 0
      · have hw1 : (wrongM (msgOf l) != 0) = false := by rw [hw]; rfl
        have HW := Lib.hid hw
        clear hw HAPP
        go_wp2_with (first | (go_at_call 9; refine (HWR.out X pa pn pc HOX.out).mono ?_; rintro e w2 ⟨rfl, hb2⟩; have HM2 := Lib.hid (HMX.out.next hb2); have HX2 := Lib.hid ((hb2.block _ (Array.getElem?_eq_some_iff.1 HX.out).1).trans HX.out); have HO2 := Lib.hid (HOX.out.below hb2 (Nat.le_refl _)); clear hb2) | (refine wpList_load_row rfl 27 _ rfl g rfl 27 (msC (msgOf l) (.slice pa pn pc)) (0, 0) _ HX.out Tryd.underlying27 rfl (msSize _ _) ?_) | (refine wpList_load_row rfl 27 _ rfl g rfl 27 (msC (msgOf l) (.slice pa pn pc)) (0, 0) _ HX2.out Tryd.underlying27 rfl (msSize _ _) ?_) | (refine wpList_store_row rfl 27 _ _ rfl w.heap.size (msC (msgOf l) (.slice pa pn pc)) rfl rfl 27 zeroA HM2.out.box (msSize _ _) rfl (msAll _ _ _ _) ?_))
        refine bodyPost_ret (v := .tuple #[.agg (msC (msgOf l) (.slice pa pn pc)), .int .i64 0]) (res_q rfl rfl (setRow_heap _ _ _ _ _ _ HM2.out.box) rfl) rfl ⟨below_setRow HM2.out.bel (Nat.le_refl _) _, fun h => absurd HW.out h, fun _ => ⟨.slice pa pn pc, rfl, ?_⟩⟩
        exact HO2.out.stay (by simp) (fun k hk => setRow_other _ _ _ _ (fun e => HO2.out.other HM2.out.box (by decide) (by rw [hk, e])))
      · have hw1 : (wrongM (msgOf l) != 0) = true := bne_iff_ne.2 hw
        have HW := Lib.hid hw
        clear hw HAPP
        go_wp2_with (first | (go_at_call 9; refine (HWR.out X pa pn pc HOX.out).mono ?_; rintro e w2 ⟨rfl, hb2⟩; have HM2 := Lib.hid (HMX.out.next hb2); have HX2 := Lib.hid ((hb2.block _ (Array.getElem?_eq_some_iff.1 HX.out).1).trans HX.out); have HO2 := Lib.hid (HOX.out.below hb2 (Nat.le_refl _)); clear hb2) | (refine wpList_load_row rfl 27 _ rfl g rfl 27 (msC (msgOf l) (.slice pa pn pc)) (0, 0) _ HX.out Tryd.underlying27 rfl (msSize _ _) ?_) | (refine wpList_store_row rfl 27 _ _ rfl w.heap.size zeroA rfl rfl 27 zeroA HM2.out.box zSize rfl zAll ?_))
        exact bodyPost_ret (v := .tuple #[.agg zeroA, .int .i64 (wrongM (msgOf l))]) (res_q rfl rfl (setRow_heap _ _ _ _ _ _ HM2.out.box) rfl) rfl ⟨below_setRow HM2.out.bel (Nat.le_refl _) _, fun _ => rfl, fun h => absurd h HW.out⟩
  · go_simp
    have hb := oalloc U0 (.cells #[.int .i64 0, .int .i64 0, .int .i64 0, .int .i64 0, .int .i64 0, .int .i64 0, .slice none 0 0] 27)
    have HG1 : Hid ((U0.alloc (.cells #[.int .i64 0, .int .i64 0, .int .i64 0, .int .i64 0, .int .i64 0, .int .i64 0, .slice none 0 0] 27)).heap[U0.heap.size]? = some (.cells zeroA 27 (0, 0))) := heap_alloc_new U0 _
    have hgz : w.heap.size < U0.heap.size := (Array.getElem?_eq_some_iff.1 HM0.out.box).1
    have HM1 := Lib.hid (HM0.out.next hb)
    have hH := HM1.out.bel
    generalize U0.heap.size = g at *
    generalize World.alloc U0 _ = V1 at *
    refine hK.out _ _ hH (fun hHeld => ?_)
    clear hK K hb hH HM0
    refine wpAnyH_ready (rs := [37]) (by kernel_rfl) (by simp) ?_
    refine AllReadyH.cons rfl (fun K hK => ?_) AllReadyH.nil
    go_simp
    have hb := oalloc V1 (.cells #[] 5)
    have hr0 : w.heap.size < V1.heap.size := (Array.getElem?_eq_some_iff.1 HM1.out.box).1
    have HE2 : Hid ((V1.alloc (.cells #[] 5)).heap[V1.heap.size]? = some (.cells #[] 5 (0, 0))) := heap_alloc_new V1 _
    have HM2 := Lib.hid (HM1.out.next hb)
    have HG2 := Lib.hid ((hb.block _ (Array.getElem?_eq_some_iff.1 HG1.out).1).trans HG1.out)
    have hH := HM2.out.bel
    generalize V1.heap.size = r0 at *
    generalize World.alloc V1 _ = V2 at *
    refine hK.out _ _ hH (fun hHeld => ?_)
    clear hK K hb hH HM1
    refine wpAnyH_ready (rs := [42]) (by kernel_rfl) (by simp) ?_
    refine AllReadyH.cons rfl (fun K hK => ?_) AllReadyH.nil
    obtain ⟨pa, pn, pc, V3, happ, ho, hbx, hbel⟩ := HAPP.out V2 r0 HM2.out HE2.out hr0
    have HA := Lib.hid happ
    have HO3 := Lib.hid ho
    have HM3 : Hid (RK w V3 w.heap.size) := ⟨hbel, hbx _ _ _ (by decide) HM2.out.box⟩
    have HG3 := Lib.hid (hbx _ _ _ (by decide) HG2.out)
    clear happ ho hbx hbel
    refine step_app_eq (by rfl) 83 (by rfl) _ _ _ _ (by rfl) _ _ (by rfl) (by rfl) HA.out ?_
    simp only [List.setIfInBounds_toArray, List.set_cons_zero, List.set_cons_succ]
    refine hK.out _ _ HM3.out.bel (fun hHeld => ?_)
    clear hK K HA HM2 HE2
    refine take_at 43 84 (v := ?_) rfl rfl (by kernel_rfl) (by kernel_rfl) (by kernel_rfl) (fun _ _ _ h => h) rfl ?_ hHeld ?_
    rotate_left
    · intro w hSw
      go_simp
      try with_reducible rfl
    simp only [List.setIfInBounds_toArray, List.set_cons_zero, List.set_cons_succ]
    refine wpAnyH_ready (rs := [45]) (by kernel_rfl) (by simp) ?_
    refine AllReadyH.cons rfl (fun K hK => ?_) AllReadyH.nil
    have hH : Below w.heap.size w (V3.setRow g #[.int .i64 (nB l 0), .int .i64 (nB l 1), .int .i64 (nB l 2), .int .i64 (n2 l 3), .int .i64 (nB l 5), .int .i64 (n2 l 6), .slice pa pn pc]) := below_setRow HM3.out.bel (by omega) _
    refine step_store_row (by rfl) (by rfl) 27 _ _ (by rfl) g #[.int .i64 (nB l 0), .int .i64 (nB l 1), .int .i64 (nB l 2), .int .i64 (n2 l 3), .int .i64 (nB l 5), .int .i64 (n2 l 6), .slice pa pn pc] (by rfl) (by rfl) 27 zeroA HG3.out (msSize (msgOf l) _) rfl (msAll (msgOf l) _ _ _) ?_
    have HX : Hid ((V3.setRow g #[.int .i64 (nB l 0), .int .i64 (nB l 1), .int .i64 (nB l 2), .int .i64 (n2 l 3), .int .i64 (nB l 5), .int .i64 (n2 l 6), .slice pa pn pc]).heap[g]? = some (.cells (msC (msgOf l) (.slice pa pn pc)) 27 (0, 0))) := setRow_heap _ _ _ _ _ _ HG3.out
    have HMX : Hid (RK w (V3.setRow g #[.int .i64 (nB l 0), .int .i64 (nB l 1), .int .i64 (nB l 2), .int .i64 (n2 l 3), .int .i64 (nB l 5), .int .i64 (n2 l 6), .slice pa pn pc]) w.heap.size) := ⟨hH, (setRow_other _ _ _ _ (by omega)).trans HM3.out.box⟩
    have HOX : Hid (Out (V3.setRow g #[.int .i64 (nB l 0), .int .i64 (nB l 1), .int .i64 (nB l 2), .int .i64 (n2 l 3), .int .i64 (nB l 5), .int .i64 (n2 l 6), .slice pa pn pc]) w.heap.size (.slice pa pn pc) (msgOf l).data) := HO3.out.stay (by simp) (fun k hk => setRow_other _ _ _ _ (fun e => HO3.out.other HG3.out (by decide) (by rw [hk, e])))
    refine hK.out _ _ hH (fun hHeld => ?_)
    clear hK K hH hHeld HG3 HM3 HO3
    refine wpAnyH_done (by kernel_rfl) ?_ _
    refine NoPanic.normal ?_
    generalize World.setRow V3 g _ = X at *
    by_cases hw : wrongM (msgOf l) = 0
    · have hw1 : (wrongM (msgOf l) != 0) = false := by rw [hw]; rfl
      have HW := Lib.hid hw
      clear hw HAPP
      go_wp2_with (first | (go_at_call 9; refine (HWR.out X pa pn pc HOX.out).mono ?_; rintro e w2 ⟨rfl, hb2⟩; have HM2 := Lib.hid (HMX.out.next hb2); have HX2 := Lib.hid ((hb2.block _ (Array.getElem?_eq_some_iff.1 HX.out).1).trans HX.out); have HO2 := Lib.hid (HOX.out.below hb2 (Nat.le_refl _)); clear hb2) | (refine wpList_load_row rfl 27 _ rfl g rfl 27 (msC (msgOf l) (.slice pa pn pc)) (0, 0) _ HX.out Tryd.underlying27 rfl (msSize _ _) ?_) | (refine wpList_load_row rfl 27 _ rfl g rfl 27 (msC (msgOf l) (.slice pa pn pc)) (0, 0) _ HX2.out Tryd.underlying27 rfl (msSize _ _) ?_) | (refine wpList_store_row rfl 27 _ _ rfl w.heap.size (msC (msgOf l) (.slice pa pn pc)) rfl rfl 27 zeroA HM2.out.box (msSize _ _) rfl (msAll _ _ _ _) ?_))
      refine bodyPost_ret (v := .tuple #[.agg (msC (msgOf l) (.slice pa pn pc)), .int .i64 0]) (res_q rfl rfl (setRow_heap _ _ _ _ _ _ HM2.out.box) rfl) rfl ⟨below_setRow HM2.out.bel (Nat.le_refl _) _, fun h => absurd HW.out h, fun _ => ⟨.slice pa pn pc, rfl, ?_⟩⟩
      exact HO2.out.stay (by simp) (fun k hk => setRow_other _ _ _ _ (fun e => HO2.out.other HM2.out.box (by decide) (by rw [hk, e])))
    · have hw1 : (wrongM (msgOf l) != 0) = true := bne_iff_ne.2 hw
      have HW := Lib.hid hw
      clear hw HAPP
      go_wp2_with (first | (go_at_call 9; refine (HWR.out X pa pn pc HOX.out).mono ?_; rintro e w2 ⟨rfl, hb2⟩; have HM2 := Lib.hid (HMX.out.next hb2); have HX2 := Lib.hid ((hb2.block _ (Array.getElem?_eq_some_iff.1 HX.out).1).trans HX.out); have HO2 := Lib.hid (HOX.out.below hb2 (Nat.le_refl _)); clear hb2) | (refine wpList_load_row rfl 27 _ rfl g rfl 27 (msC (msgOf l) (.slice pa pn pc)) (0, 0) _ HX.out Tryd.underlying27 rfl (msSize _ _) ?_) | (refine wpList_store_row rfl 27 _ _ rfl w.heap.size zeroA rfl rfl 27 zeroA HM2.out.box zSize rfl zAll ?_))
      exact bodyPost_ret (v := .tuple #[.agg zeroA, .int .i64 (wrongM (msgOf l))]) (res_q rfl rfl (setRow_heap _ _ _ _ _ _ HM2.out.box) rfl) rfl ⟨below_setRow HM2.out.bel (Nat.le_refl _) _, fun _ => rfl, fun h => absurd h HW.out⟩

end Go.Proofs.YtmbjahjkgjkbhaaDoor
