/- The program's own sim: do: what gets, what puts, what tells. -/
import Derived.Test.YtabepbaldadmgaaDoorSnG
namespace Go.Proofs.YtabepbaldadmgaaDoor
open Go.RowKit Isa

theorem get_plain (m : Ma) (op n mm imm at' : Int) (h : op = 26) (rm0 : -2147483648 ≤ m.r mm.toNat) (rm1 : m.r mm.toNat ≤ 2147483647) : plainE m op n mm imm at' = (if hasB m (m.r mm.toNat) 4 = false then 3 else 0) ∧ plainM m op n mm imm at' = (if hasB m (m.r mm.toNat) 4 = false then m else setR m n.toNat (loadS m (m.r mm.toNat) 4)) := by
  have e2 := a32_id (m := m) (n := mm) rm0 rm1
  subst h
  constructor
  · unfold plainE memAt memSz
    simp [e2]
  · unfold plainM memAt memSz
    simp [e2]
theorem put_plain (m : Ma) (op n mm imm at' : Int) (h : op = 25) (rn0 : -2147483648 ≤ m.r n.toNat) (rn1 : m.r n.toNat ≤ 2147483647) (rm0 : -2147483648 ≤ m.r mm.toNat) (rm1 : m.r mm.toNat ≤ 2147483647) : plainE m op n mm imm at' = (if hasB m (m.r n.toNat) 4 = false then 3 else 0) ∧ plainM m op n mm imm at' = (if hasB m (m.r n.toNat) 4 = false then m else { m with by' := putS m (m.r n.toNat) (m.r mm.toNat) }) := by
  have e1 := a32_id (m := m) (n := n) rn0 rn1
  have e2 := a32_id (m := m) (n := mm) rm0 rm1
  subst h
  constructor
  · unfold plainE memAt memSz
    simp [e1]
  · unfold plainM memAt memSz
    simp [e1, e2]
/-- An append whose run is known, as a step of a region that draws. -/
theorem step_app_eq {P : Program} {ops : Array Oper} {o : Oper} {a : Act} {w : World} {K : Act → World → Prop} {Q : Exit → Act → World → Prop} {E : Prop} (hgd : o.guard = none) (d : Nat) (hd : o.dst = some d) (sl x : Operand) (t u : TypeId)
    (ho : o.op = .call { callee := .builtin .append, args := #[sl, x], argTypes := #[t, u] }) (v v2 : Value) (hs : a.eval sl = v) (hx : a.eval x = v2) {v' : Value} {w' : World}
    (hr : ∀ ty, (Builtin.append_ #[t, u] ty #[v, v2]).run P w = .ok v' w') (h : K ⟨a.tmps.setIfInBounds d v', a.defers⟩ w') : if Region.wanted o (yielded ops a.tmps) = true then Oper.wp P o a w K Q else E := by
  have hw : Region.wanted o (yielded ops a.tmps) = true := by simp [Region.wanted, hgd]
  rw [if_pos hw]
  have hr := hr o.type
  unfold Oper.wp execOp
  simp only [ho, resolve, invoke, builtin, Sem.run_bind, Sem.run_pure, Result.andThen_ok, List.map_toArray, List.map_cons, List.map_nil, hs, hx, hr]
  show K (a.put o.dst v') w'
  rw [hd]
  exact h

set_option maxHeartbeats 8000000 in
set_option maxRecDepth 100000 in
theorem do_get (K g : Nat) (m : Ma) (gb bc : Nat) (s0 : Option Addr) (s1 s2 : Nat) (ta : Option Addr) (tc : Nat) (op n mm imm at' : Int) (W : World) (h : MR K g m gb bc (.slice s0 s1 s2) ta tc W) (hM : MOk m) (hr : ∀ k, in32 (m.r k)) (ha0 : 0 ≤ at') (ha1 : at' ≤ 1000000000000) (hi0 : -10000 ≤ imm) (hi1 : imm ≤ 10000) (hn0 : 0 ≤ n) (hn1 : n ≤ 15) (hm0 : 0 ≤ mm) (hm1 : mm ≤ 15) (hop : op = 26) :
    Calls Tryd.prog 35 #[.pointer (some ⟨g, 0, none⟩), .agg #[.int .i64 op, .int .i64 n, .int .i64 mm, .int .i64 imm], .int .i64 at'] W fun e W' => e = .returned (.int .i64 (plainE m op n mm imm at')) ∧ PP K K g gb bc (.slice s0 s1 s2) (plainM m op n mm imm at') W W' := by
  have hused := And.intro hM (And.intro ha0 (And.intro ha1 (And.intro hi0 (And.intro hi1 (And.intro hm0 hm1)))))
  clear hused
  obtain ⟨V, hV⟩ : ∃ V, V = W.alloc (.cells #[.int .i64 op, .int .i64 n, .int .i64 mm, .int .i64 imm] 45) := ⟨_, rfl⟩
  have hb : Below W.heap.size W V := by rw [hV]; exact oalloc _ _
  have kV : V.heap[W.heap.size]? = some (.cells #[.int .i64 op, .int .i64 n, .int .i64 mm, .int .i64 imm] 45 (0, 0)) := by rw [hV]; exact blk_new _ _ _
  have c0 := cell_of_block (i := 0) kV rfl
  have hgW : g < W.heap.size := h.lt
  have hgne : W.heap.size ≠ g := by omega
  have hn16 : n.toNat < 16 := by omega
  have hm16 : mm.toNat < 16 := by omega
  have hn2 : n < 16 := by omega
  have hm2 : mm < 16 := by omega
  obtain ⟨rn0, rn1⟩ := hr n.toNat
  obtain ⟨rm0, rm1⟩ := hr mm.toNat
  have HV := Lib.hid hV.symm
  have HK0 : Hid (V.drew.heap[W.heap.size]? = some (.cells #[.int .i64 op, .int .i64 n, .int .i64 mm, .int .i64 imm] 45 (0, 0))) := kV
  have HB0 := Lib.hid hb.drew
  have HM0 := Lib.hid (h.next hb.drew)
  have HW := Lib.hid h
  have HC : Hid (∀ X, MR K g m gb bc (.slice s0 s1 s2) ta tc X → Calls Tryd.prog 46 #[.pointer (some ⟨g, 0, none⟩), .int .i64 n, .int .i64 (m.r mm.toNat), .int .i64 4] X fun e W' => e = .returned (.int .i64 (plainE m op n mm imm at')) ∧ PP X.heap.size K g gb bc (.slice s0 s1 s2) (plainM m op n mm imm at') X W') := fun X hX => by
    rw [(get_plain m op n mm imm at' hop rm0 rm1).1, (get_plain m op n mm imm at' hop rm0 rm1).2]
    exact get_either K g m gb bc s0 s1 s2 ta tc n (m.r mm.toNat) 4 X hX (Or.inr rfl) hM (by omega) (by omega) hn0 hn1
  have hgbne : W.heap.size ≠ gb := by have := (Array.getElem?_eq_some_iff.1 h.bb).1; omega
  generalize plainE m op n mm imm at' = EE at *
  generalize plainM m op n mm imm at' = MM at *
  have ho1 : 26 ≤ op := by omega
  have ho2 : op ≤ 26 := by omega
  clear hop
  clear hV hb kV h hM hr
  go_enter Tryd.func35, Tryd.ntmps35
  go_upto_region 1 with fail
  rw [HV.out]
  clear HV
  go_upto_region 8 with fail
  refine wp_region_noPanic ?_
  refine wp_region_held_drew (S := fun w' => w'.heap[W.heap.size]? = some (.cells #[.int .i64 op, .int .i64 n, .int .i64 mm, .int .i64 imm] 45 (0, 0))) (by kernel_rfl) HK0.out (fun hHeld => ?_)
  generalize V.drew = V0 at *
  clear HK0 c0
  refine take_at 0 45 (v := ?_) rfl rfl (by kernel_rfl) (by kernel_rfl) (by kernel_rfl) (fun _ _ _ h => h) rfl ?_ hHeld ?_
  rotate_left
  · intro w hSw
    go_simp
    try with_reducible rfl
  simp only [List.setIfInBounds_toArray, List.set_cons_zero, List.set_cons_succ]
  refine take_at 1 46 (v := ?_) rfl rfl (by kernel_rfl) (by kernel_rfl) (by kernel_rfl) (fun _ _ _ h => h) rfl ?_ hHeld ?_
  rotate_left
  · intro w hSw
    go_simp
    try with_reducible rfl
  simp only [List.setIfInBounds_toArray, List.set_cons_zero, List.set_cons_succ]
  refine take_at 2 47 (v := ?_) rfl rfl (by kernel_rfl) (by kernel_rfl) (by kernel_rfl) (fun _ _ _ h => h) rfl ?_ hHeld ?_
  rotate_left
  · intro w hSw
    have y := cell_of_block (i := 1) hSw rfl
    go_simp
    try with_reducible rfl
  simp only [List.setIfInBounds_toArray, List.set_cons_zero, List.set_cons_succ]
  refine take_at 3 48 (v := ?_) rfl rfl (by kernel_rfl) (by kernel_rfl) (by kernel_rfl) (fun _ _ _ h => h) rfl ?_ hHeld ?_
  rotate_left
  · intro w hSw
    go_simp
    try with_reducible rfl
  simp only [List.setIfInBounds_toArray, List.set_cons_zero, List.set_cons_succ]
  refine take_at 4 49 (v := ?_) rfl rfl (by kernel_rfl) (by kernel_rfl) (by kernel_rfl) (fun _ _ _ h => h) rfl ?_ hHeld ?_
  rotate_left
  · intro w hSw
    go_simp
    try with_reducible rfl
  simp only [List.setIfInBounds_toArray, List.set_cons_zero, List.set_cons_succ]
  refine take_at 5 50 (v := ?_) rfl rfl (by kernel_rfl) (by kernel_rfl) (by kernel_rfl) (fun _ _ _ h => h) rfl ?_ hHeld ?_
  rotate_left
  · intro w hSw
    have y := cell_of_block (i := 2) hSw rfl
    go_simp
    try with_reducible rfl
  simp only [List.setIfInBounds_toArray, List.set_cons_zero, List.set_cons_succ]
  refine take_at 6 51 (v := ?_) rfl rfl (by kernel_rfl) (by kernel_rfl) (by kernel_rfl) (fun _ _ _ h => h) rfl ?_ hHeld ?_
  rotate_left
  · intro w hSw
    go_simp
    try with_reducible rfl
  simp only [List.setIfInBounds_toArray, List.set_cons_zero, List.set_cons_succ]
  refine take_at 7 52 (v := ?_) rfl rfl (by kernel_rfl) (by kernel_rfl) (by kernel_rfl) (fun _ _ _ h => h) rfl ?_ hHeld ?_
  rotate_left
  · intro w hSw
    go_simp
    try with_reducible rfl
  simp only [List.setIfInBounds_toArray, List.set_cons_zero, List.set_cons_succ]
  refine take_at 8 53 (v := ?_) rfl rfl (by kernel_rfl) (by kernel_rfl) (by kernel_rfl) (fun _ _ _ h => h) rfl ?_ hHeld ?_
  rotate_left
  · intro w hSw
    go_simp
    try with_reducible rfl
  simp only [List.setIfInBounds_toArray, List.set_cons_zero, List.set_cons_succ]
  refine wpAnyH_ready (rs := [9]) (by kernel_rfl) (by simp) ?_
  refine AllReadyH.cons rfl (fun K hK => ?_) AllReadyH.nil
  have xl := HM0.out.rn mm.toNat hm16
  go_simp
  refine hK.out _ _ hHeld (fun hHeld => ?_)
  clear hK K xl
  refine wpAnyH_ready (rs := [10]) (by kernel_rfl) (by simp) ?_
  refine AllReadyH.cons rfl (fun K hK => ?_) AllReadyH.nil
  go_simp
  refine (HC.out V0 HM0.out).mono ?_
  rintro e V1 ⟨rfl, hp1⟩
  have hH1 := (hp1.1.block _ (Array.getElem?_eq_some_iff.1 hHeld).1 hgne hgbne).trans hHeld
  have HP1 := Lib.hid hp1
  refine hK.out _ _ hH1 (fun hHeld => ?_)
  clear hK K hp1 hH1
  refine take_at 11 6 (v := ?_) rfl rfl (by kernel_rfl) (by kernel_rfl) (by kernel_rfl) (fun _ _ _ h => h) rfl ?_ hHeld ?_
  rotate_left
  · intro w hSw
    go_simp
    try with_reducible rfl
  simp only [List.setIfInBounds_toArray, List.set_cons_zero, List.set_cons_succ]
  refine wpAnyH_done (by kernel_rfl) ?_ _
  refine NoPanic.normal ?_
  go_wp2
  go_ret
  exact ⟨rfl, PP.after HB0.out HP1.out HW.out.kz⟩

set_option maxHeartbeats 8000000 in
set_option maxRecDepth 100000 in
theorem do_put (K g : Nat) (m : Ma) (gb bc : Nat) (s0 : Option Addr) (s1 s2 : Nat) (ta : Option Addr) (tc : Nat) (op n mm imm at' : Int) (W : World) (h : MR K g m gb bc (.slice s0 s1 s2) ta tc W) (hM : MOk m) (hr : ∀ k, in32 (m.r k)) (ha0 : 0 ≤ at') (ha1 : at' ≤ 1000000000000) (hi0 : -10000 ≤ imm) (hi1 : imm ≤ 10000) (hn0 : 0 ≤ n) (hn1 : n ≤ 15) (hm0 : 0 ≤ mm) (hm1 : mm ≤ 15) (hop : op = 25) (hbc : m.by'.length ≤ bc) :
    Calls Tryd.prog 35 #[.pointer (some ⟨g, 0, none⟩), .agg #[.int .i64 op, .int .i64 n, .int .i64 mm, .int .i64 imm], .int .i64 at'] W fun e W' => e = .returned (.int .i64 (plainE m op n mm imm at')) ∧ PP K K g gb bc (.slice s0 s1 s2) (plainM m op n mm imm at') W W' := by
  have hused := And.intro hM (And.intro ha0 (And.intro ha1 (And.intro hi0 (And.intro hi1 (And.intro hm0 hm1)))))
  clear hused
  obtain ⟨V, hV⟩ : ∃ V, V = W.alloc (.cells #[.int .i64 op, .int .i64 n, .int .i64 mm, .int .i64 imm] 45) := ⟨_, rfl⟩
  have hb : Below W.heap.size W V := by rw [hV]; exact oalloc _ _
  have kV : V.heap[W.heap.size]? = some (.cells #[.int .i64 op, .int .i64 n, .int .i64 mm, .int .i64 imm] 45 (0, 0)) := by rw [hV]; exact blk_new _ _ _
  have c0 := cell_of_block (i := 0) kV rfl
  have hgW : g < W.heap.size := h.lt
  have hgne : W.heap.size ≠ g := by omega
  have hn16 : n.toNat < 16 := by omega
  have hm16 : mm.toNat < 16 := by omega
  have hn2 : n < 16 := by omega
  have hm2 : mm < 16 := by omega
  obtain ⟨rn0, rn1⟩ := hr n.toNat
  obtain ⟨rm0, rm1⟩ := hr mm.toNat
  have HV := Lib.hid hV.symm
  have HK0 : Hid (V.drew.heap[W.heap.size]? = some (.cells #[.int .i64 op, .int .i64 n, .int .i64 mm, .int .i64 imm] 45 (0, 0))) := kV
  have HB0 := Lib.hid hb.drew
  have HM0 := Lib.hid (h.next hb.drew)
  have HW := Lib.hid h
  have HC : Hid (∀ X, MR K g m gb bc (.slice s0 s1 s2) ta tc X → Calls Tryd.prog 47 #[.pointer (some ⟨g, 0, none⟩), .int .i64 (m.r n.toNat), .int .i64 (m.r mm.toNat)] X fun e W' => e = .returned (.int .i64 (plainE m op n mm imm at')) ∧ PP X.heap.size K g gb bc (.slice s0 s1 s2) (plainM m op n mm imm at') X W') := fun X hX => by
    rw [(put_plain m op n mm imm at' hop rn0 rn1 rm0 rm1).1, (put_plain m op n mm imm at' hop rn0 rn1 rm0 rm1).2]
    exact put_either K g m gb bc s0 s1 s2 ta tc (m.r n.toNat) (m.r mm.toNat) X hX hM (by omega) (by omega) hbc
  have hgbne : W.heap.size ≠ gb := by have := (Array.getElem?_eq_some_iff.1 h.bb).1; omega
  generalize plainE m op n mm imm at' = EE at *
  generalize plainM m op n mm imm at' = MM at *
  have ho1 : 25 ≤ op := by omega
  have ho2 : op ≤ 25 := by omega
  clear hop
  clear hV hb kV h hM hr
  go_enter Tryd.func35, Tryd.ntmps35
  go_upto_region 1 with fail
  rw [HV.out]
  clear HV
  go_upto_region 10 with fail
  refine wp_region_noPanic ?_
  refine wp_region_held_drew (S := fun w' => w'.heap[W.heap.size]? = some (.cells #[.int .i64 op, .int .i64 n, .int .i64 mm, .int .i64 imm] 45 (0, 0))) (by kernel_rfl) HK0.out (fun hHeld => ?_)
  generalize V.drew = V0 at *
  clear HK0 c0
  refine take_at 0 58 (v := ?_) rfl rfl (by kernel_rfl) (by kernel_rfl) (by kernel_rfl) (fun _ _ _ h => h) rfl ?_ hHeld ?_
  rotate_left
  · intro w hSw
    go_simp
    try with_reducible rfl
  simp only [List.setIfInBounds_toArray, List.set_cons_zero, List.set_cons_succ]
  refine take_at 1 59 (v := ?_) rfl rfl (by kernel_rfl) (by kernel_rfl) (by kernel_rfl) (fun _ _ _ h => h) rfl ?_ hHeld ?_
  rotate_left
  · intro w hSw
    go_simp
    try with_reducible rfl
  simp only [List.setIfInBounds_toArray, List.set_cons_zero, List.set_cons_succ]
  refine take_at 2 60 (v := ?_) rfl rfl (by kernel_rfl) (by kernel_rfl) (by kernel_rfl) (fun _ _ _ h => h) rfl ?_ hHeld ?_
  rotate_left
  · intro w hSw
    go_simp
    try with_reducible rfl
  simp only [List.setIfInBounds_toArray, List.set_cons_zero, List.set_cons_succ]
  refine take_at 3 61 (v := ?_) rfl rfl (by kernel_rfl) (by kernel_rfl) (by kernel_rfl) (fun _ _ _ h => h) rfl ?_ hHeld ?_
  rotate_left
  · intro w hSw
    have y := cell_of_block (i := 1) hSw rfl
    go_simp
    try with_reducible rfl
  simp only [List.setIfInBounds_toArray, List.set_cons_zero, List.set_cons_succ]
  refine take_at 4 62 (v := ?_) rfl rfl (by kernel_rfl) (by kernel_rfl) (by kernel_rfl) (fun _ _ _ h => h) rfl ?_ hHeld ?_
  rotate_left
  · intro w hSw
    go_simp
    try with_reducible rfl
  simp only [List.setIfInBounds_toArray, List.set_cons_zero, List.set_cons_succ]
  refine take_at 5 63 (v := ?_) rfl rfl (by kernel_rfl) (by kernel_rfl) (by kernel_rfl) (fun _ _ _ h => h) rfl ?_ hHeld ?_
  rotate_left
  · intro w hSw
    go_simp
    try with_reducible rfl
  simp only [List.setIfInBounds_toArray, List.set_cons_zero, List.set_cons_succ]
  refine take_at 6 64 (v := ?_) rfl rfl (by kernel_rfl) (by kernel_rfl) (by kernel_rfl) (fun _ _ _ h => h) rfl ?_ hHeld ?_
  rotate_left
  · intro w hSw
    go_simp
    try with_reducible rfl
  simp only [List.setIfInBounds_toArray, List.set_cons_zero, List.set_cons_succ]
  refine take_at 8 66 (v := ?_) rfl rfl (by kernel_rfl) (by kernel_rfl) (by kernel_rfl) (fun _ _ _ h => h) rfl ?_ hHeld ?_
  rotate_left
  · intro w hSw
    go_simp
    try with_reducible rfl
  simp only [List.setIfInBounds_toArray, List.set_cons_zero, List.set_cons_succ]
  refine take_at 9 67 (v := ?_) rfl rfl (by kernel_rfl) (by kernel_rfl) (by kernel_rfl) (fun _ _ _ h => h) rfl ?_ hHeld ?_
  rotate_left
  · intro w hSw
    go_simp
    try with_reducible rfl
  simp only [List.setIfInBounds_toArray, List.set_cons_zero, List.set_cons_succ]
  refine take_at 10 68 (v := ?_) rfl rfl (by kernel_rfl) (by kernel_rfl) (by kernel_rfl) (fun _ _ _ h => h) rfl ?_ hHeld ?_
  rotate_left
  · intro w hSw
    have y := cell_of_block (i := 2) hSw rfl
    go_simp
    try with_reducible rfl
  simp only [List.setIfInBounds_toArray, List.set_cons_zero, List.set_cons_succ]
  refine take_at 11 69 (v := ?_) rfl rfl (by kernel_rfl) (by kernel_rfl) (by kernel_rfl) (fun _ _ _ h => h) rfl ?_ hHeld ?_
  rotate_left
  · intro w hSw
    go_simp
    try with_reducible rfl
  simp only [List.setIfInBounds_toArray, List.set_cons_zero, List.set_cons_succ]
  refine take_at 12 70 (v := ?_) rfl rfl (by kernel_rfl) (by kernel_rfl) (by kernel_rfl) (fun _ _ _ h => h) rfl ?_ hHeld ?_
  rotate_left
  · intro w hSw
    go_simp
    try with_reducible rfl
  simp only [List.setIfInBounds_toArray, List.set_cons_zero, List.set_cons_succ]
  refine take_at 13 71 (v := ?_) rfl rfl (by kernel_rfl) (by kernel_rfl) (by kernel_rfl) (fun _ _ _ h => h) rfl ?_ hHeld ?_
  rotate_left
  · intro w hSw
    go_simp
    try with_reducible rfl
  simp only [List.setIfInBounds_toArray, List.set_cons_zero, List.set_cons_succ]
  refine wpAnyH_ready (rs := [7, 14]) (by kernel_rfl) (by simp) ?_
  refine AllReadyH.cons rfl (fun K hK => ?_) (AllReadyH.cons rfl (fun K hK => ?_) AllReadyH.nil)
  · have xl := HM0.out.rn n.toNat hn16
    go_simp
    refine hK.out _ _ hHeld (fun hHeld => ?_)
    clear hK K xl
    refine wpAnyH_ready (rs := [14]) (by kernel_rfl) (by simp) ?_
    refine AllReadyH.cons rfl (fun K hK => ?_) AllReadyH.nil
    have xl := HM0.out.rn mm.toNat hm16
    go_simp
    refine hK.out _ _ hHeld (fun hHeld => ?_)
    clear hK K xl
    refine wpAnyH_ready (rs := [15]) (by kernel_rfl) (by simp) ?_
    refine AllReadyH.cons rfl (fun K hK => ?_) AllReadyH.nil
    go_simp
    refine (HC.out V0 HM0.out).mono ?_
    rintro e V1 ⟨rfl, hp1⟩
    have hH1 := (hp1.1.block _ (Array.getElem?_eq_some_iff.1 hHeld).1 hgne hgbne).trans hHeld
    have HP1 := Lib.hid hp1
    refine hK.out _ _ hH1 (fun hHeld => ?_)
    clear hK K hp1 hH1
    refine take_at 16 6 (v := ?_) rfl rfl (by kernel_rfl) (by kernel_rfl) (by kernel_rfl) (fun _ _ _ h => h) rfl ?_ hHeld ?_
    rotate_left
    · intro w hSw
      go_simp
      try with_reducible rfl
    simp only [List.setIfInBounds_toArray, List.set_cons_zero, List.set_cons_succ]
    refine wpAnyH_done (by kernel_rfl) ?_ _
    refine NoPanic.normal ?_
    go_wp2
    go_ret
    exact ⟨rfl, PP.after HB0.out HP1.out HW.out.kz⟩
  · have xl := HM0.out.rn mm.toNat hm16
    go_simp
    refine hK.out _ _ hHeld (fun hHeld => ?_)
    clear hK K xl
    refine wpAnyH_ready (rs := [7]) (by kernel_rfl) (by simp) ?_
    refine AllReadyH.cons rfl (fun K hK => ?_) AllReadyH.nil
    have xl := HM0.out.rn n.toNat hn16
    go_simp
    refine hK.out _ _ hHeld (fun hHeld => ?_)
    clear hK K xl
    refine wpAnyH_ready (rs := [15]) (by kernel_rfl) (by simp) ?_
    refine AllReadyH.cons rfl (fun K hK => ?_) AllReadyH.nil
    go_simp
    refine (HC.out V0 HM0.out).mono ?_
    rintro e V1 ⟨rfl, hp1⟩
    have hH1 := (hp1.1.block _ (Array.getElem?_eq_some_iff.1 hHeld).1 hgne hgbne).trans hHeld
    have HP1 := Lib.hid hp1
    refine hK.out _ _ hH1 (fun hHeld => ?_)
    clear hK K hp1 hH1
    refine take_at 16 6 (v := ?_) rfl rfl (by kernel_rfl) (by kernel_rfl) (by kernel_rfl) (fun _ _ _ h => h) rfl ?_ hHeld ?_
    rotate_left
    · intro w hSw
      go_simp
      try with_reducible rfl
    simp only [List.setIfInBounds_toArray, List.set_cons_zero, List.set_cons_succ]
    refine wpAnyH_done (by kernel_rfl) ?_ _
    refine NoPanic.normal ?_
    go_wp2
    go_ret
    exact ⟨rfl, PP.after HB0.out HP1.out HW.out.kz⟩

set_option maxHeartbeats 8000000 in
set_option maxRecDepth 100000 in
theorem do_told (K g : Nat) (m : Ma) (gb bc : Nat) (s0 : Option Addr) (s1 s2 : Nat) (ta : Option Addr) (tc : Nat) (op n mm imm at' : Int) (W : World) (h : MR K g m gb bc (.slice s0 s1 s2) ta tc W) (hM : MOk m) (hr : ∀ k, in32 (m.r k)) (ha0 : 0 ≤ at') (ha1 : at' ≤ 1000000000000) (hi0 : -10000 ≤ imm) (hi1 : imm ≤ 10000) (hn0 : 0 ≤ n) (hn1 : n ≤ 15) (hm0 : 0 ≤ mm) (hm1 : mm ≤ 15) (hop : op = 27) :
    Calls Tryd.prog 35 #[.pointer (some ⟨g, 0, none⟩), .agg #[.int .i64 op, .int .i64 n, .int .i64 mm, .int .i64 imm], .int .i64 at'] W fun e W' => e = .returned (.int .i64 (plainE m op n mm imm at')) ∧ PP K K g gb bc (.slice s0 s1 s2) (plainM m op n mm imm at') W W' := by
  have hused := And.intro hM (And.intro ha0 (And.intro ha1 (And.intro hi0 (And.intro hi1 (And.intro hm0 hm1)))))
  clear hused
  obtain ⟨V, hV⟩ : ∃ V, V = W.alloc (.cells #[.int .i64 op, .int .i64 n, .int .i64 mm, .int .i64 imm] 45) := ⟨_, rfl⟩
  have hb : Below W.heap.size W V := by rw [hV]; exact oalloc _ _
  have kV : V.heap[W.heap.size]? = some (.cells #[.int .i64 op, .int .i64 n, .int .i64 mm, .int .i64 imm] 45 (0, 0)) := by rw [hV]; exact blk_new _ _ _
  have c0 := cell_of_block (i := 0) kV rfl
  have hgW : g < W.heap.size := h.lt
  have hgne : W.heap.size ≠ g := by omega
  have hn16 : n.toNat < 16 := by omega
  have hm16 : mm.toNat < 16 := by omega
  have hn2 : n < 16 := by omega
  have hm2 : mm < 16 := by omega
  obtain ⟨rn0, rn1⟩ := hr n.toNat
  obtain ⟨rm0, rm1⟩ := hr mm.toNat
  have HV := Lib.hid hV.symm
  have HK0 : Hid (V.drew.heap[W.heap.size]? = some (.cells #[.int .i64 op, .int .i64 n, .int .i64 mm, .int .i64 imm] 45 (0, 0))) := kV
  have HB0 := Lib.hid hb.drew
  have HM0 := Lib.hid (h.next hb.drew)
  have HW := Lib.hid h
  have HE : Hid (plainE m op n mm imm at' = 0) := by
    unfold Hid plainE
    rw [if_neg (by omega)]
  have HMM : Hid (plainM m op n mm imm at' = { m with told := m.told ++ [m.r 0] }) := by subst hop; rfl
  have htl := hM.tl
  have hdone : ∀ (ta' : Option Addr) (tc' : Nat) (V1 w2 : World), Below W.heap.size W V1 → Kept K g gb V1 w2 → MR K g { m with told := m.told ++ [m.r 0] } gb bc (.slice s0 s1 s2) ta' tc' w2 → PP K K g gb bc (.slice s0 s1 s2) { m with told := m.told ++ [m.r 0] } W w2 := fun _ _ _ _ h1 h2 h3 => ⟨(Kept.of h1 h.kz).trans h2, _, _, h3⟩
  have HDONE := Lib.hid hdone
  clear hdone
  have ho1 : 27 ≤ op := by omega
  have ho2 : op ≤ 27 := by omega
  clear hop
  clear hV hb kV h hM hr
  go_enter Tryd.func35, Tryd.ntmps35
  go_upto_region 1 with fail
  rw [HV.out]
  clear HV
  go_upto_region 12 with fail
  refine wp_region_noPanic ?_
  refine wp_region_held_drew (S := fun w' => w'.heap[W.heap.size]? = some (.cells #[.int .i64 op, .int .i64 n, .int .i64 mm, .int .i64 imm] 45 (0, 0))) (by kernel_rfl) HK0.out (fun hHeld => ?_)
  generalize V.drew = V0 at *
  clear HK0 c0
  refine take_at 0 76 (v := ?_) rfl rfl (by kernel_rfl) (by kernel_rfl) (by kernel_rfl) (fun _ _ _ h => h) rfl ?_ hHeld ?_
  rotate_left
  · intro w hSw
    go_simp
    try with_reducible rfl
  simp only [List.setIfInBounds_toArray, List.set_cons_zero, List.set_cons_succ]
  refine take_at 1 77 (v := ?_) rfl rfl (by kernel_rfl) (by kernel_rfl) (by kernel_rfl) (fun _ _ _ h => h) rfl ?_ hHeld ?_
  rotate_left
  · intro w hSw
    go_simp
    try with_reducible rfl
  simp only [List.setIfInBounds_toArray, List.set_cons_zero, List.set_cons_succ]
  refine take_at 2 78 (v := ?_) rfl rfl (by kernel_rfl) (by kernel_rfl) (by kernel_rfl) (fun _ _ _ h => h) rfl ?_ hHeld ?_
  rotate_left
  · intro w hSw
    go_simp
    try with_reducible rfl
  simp only [List.setIfInBounds_toArray, List.set_cons_zero, List.set_cons_succ]
  refine take_at 3 79 (v := ?_) rfl rfl (by kernel_rfl) (by kernel_rfl) (by kernel_rfl) (fun _ _ _ h => h) rfl ?_ hHeld ?_
  rotate_left
  · intro w hSw
    go_simp
    try with_reducible rfl
  simp only [List.setIfInBounds_toArray, List.set_cons_zero, List.set_cons_succ]
  refine take_at 5 81 (v := ?_) rfl rfl (by kernel_rfl) (by kernel_rfl) (by kernel_rfl) (fun _ _ _ h => h) rfl ?_ hHeld ?_
  rotate_left
  · intro w hSw
    go_simp
    try with_reducible rfl
  simp only [List.setIfInBounds_toArray, List.set_cons_zero, List.set_cons_succ]
  refine take_at 6 82 (v := ?_) rfl rfl (by kernel_rfl) (by kernel_rfl) (by kernel_rfl) (fun _ _ _ h => h) rfl ?_ hHeld ?_
  rotate_left
  · intro w hSw
    go_simp
    try with_reducible rfl
  simp only [List.setIfInBounds_toArray, List.set_cons_zero, List.set_cons_succ]
  refine take_at 7 83 (v := ?_) rfl rfl (by kernel_rfl) (by kernel_rfl) (by kernel_rfl) (fun _ _ _ h => h) rfl ?_ hHeld ?_
  rotate_left
  · intro w hSw
    go_simp
    try with_reducible rfl
  simp only [List.setIfInBounds_toArray, List.set_cons_zero, List.set_cons_succ]
  refine take_at 8 84 (v := ?_) rfl rfl (by kernel_rfl) (by kernel_rfl) (by kernel_rfl) (fun _ _ _ h => h) rfl ?_ hHeld ?_
  rotate_left
  · intro w hSw
    go_simp
    try with_reducible rfl
  simp only [List.setIfInBounds_toArray, List.set_cons_zero, List.set_cons_succ]
  refine wpAnyH_ready (rs := [4, 9]) (by kernel_rfl) (by simp) ?_
  refine AllReadyH.cons rfl (fun K hK => ?_) (AllReadyH.cons rfl (fun K hK => ?_) AllReadyH.nil)
  · have xl := HM0.out.cells.2.2.2.2.2.2.1
    go_simp
    refine hK.out _ _ hHeld (fun hHeld => ?_)
    clear hK K xl
    refine wpAnyH_ready (rs := [9]) (by kernel_rfl) (by simp) ?_
    refine AllReadyH.cons rfl (fun K hK => ?_) AllReadyH.nil
    have xl := HM0.out.rn 0 (by decide)
    go_simp
    refine hK.out _ _ hHeld (fun hHeld => ?_)
    clear hK K xl
    refine wpAnyH_ready (rs := [10]) (by kernel_rfl) (by simp) ?_
    refine AllReadyH.cons rfl (fun K hK => ?_) AllReadyH.nil
    go_simp
    generalize hWn : World.alloc V0 _ = V1
    have hb1 : Below V0.heap.size V0 V1 := by rw [← hWn]; exact oalloc _ _
    have HN : Hid (V1.heap[V0.heap.size]? = some (.cells #[.int .i64 (m.r 0)] 3 (0, 0))) := by unfold Hid; rw [← hWn]; exact blk_new V0 _ _
    have hH1 := (hb1.block _ (Array.getElem?_eq_some_iff.1 hHeld).1).trans hHeld
    have HM1 := Lib.hid (HM0.out.next hb1)
    have HB1 := Lib.hid (HB0.out.trans (hb1.mono HB0.out.size))
    refine hK.out _ _ hH1 (fun hHeld => ?_)
    clear hK K hb1 hH1 hWn
    refine wpAnyH_ready (rs := [11]) (by kernel_rfl) (by simp) ?_
    refine AllReadyH.cons rfl (fun K hK => ?_) AllReadyH.nil
    obtain ⟨ta', tc', V2, happ, hgr, x22, xf, hk2, hm2⟩ := HM1.out.app V0.heap.size (m.r 0) HN.out htl
    have HA := Lib.hid happ
    have HZ := Lib.hid (HDONE.out _ _ _ _ HB1.out hk2 hm2)
    have hH2 : V2.heap[W.heap.size]? = some (.cells #[.int .i64 op, .int .i64 n, .int .i64 mm, .int .i64 imm] 45 (0, 0)) := by
      rw [hgr.block _ (Array.getElem?_eq_some_iff.1 hHeld).1 (by
        rcases own_ne HM1.out.tt hHeld (by decide) with e | e
        · rw [e]; simp
        · exact fun e' => e e'.symm)]
      exact hHeld
    clear happ hgr hk2 hm2
    refine step_app_eq (by rfl) 87 (by rfl) _ _ _ _ (by rfl) _ _ (by rfl) (by rfl) HA.out ?_
    simp only [List.setIfInBounds_toArray, List.set_cons_zero, List.set_cons_succ]
    refine hK.out _ _ hH2 (fun hHeld => ?_)
    clear hK K HA hH2
    refine take_at 12 88 (v := ?_) rfl rfl (by kernel_rfl) (by kernel_rfl) (by kernel_rfl) (fun _ _ _ h => h) rfl ?_ hHeld ?_
    rotate_left
    · intro w hSw
      go_simp
      try with_reducible rfl
    simp only [List.setIfInBounds_toArray, List.set_cons_zero, List.set_cons_succ]
    refine take_at 13 89 (v := ?_) rfl rfl (by kernel_rfl) (by kernel_rfl) (by kernel_rfl) (fun _ _ _ h => h) rfl ?_ hHeld ?_
    rotate_left
    · intro w hSw
      go_simp
      try with_reducible rfl
    simp only [List.setIfInBounds_toArray, List.set_cons_zero, List.set_cons_succ]
    refine wpAnyH_ready (rs := [14]) (by kernel_rfl) (by simp) ?_
    refine AllReadyH.cons rfl (fun K hK => ?_) AllReadyH.nil
    go_simp
    refine hK.out _ _ (by show (World.setCell V2 ⟨g, 22, none⟩ _).heap[W.heap.size]? = _; rw [Below.heap_setCell _ _ _ _ (by exact hgne)]; exact hHeld) (fun hHeld => ?_)
    clear hK K x22 xf
    refine wpAnyH_done (by kernel_rfl) ?_ _
    refine NoPanic.normal ?_
    go_wp2
    go_ret
    refine ⟨by rw [HE.out]; rfl, ?_⟩
    rw [HMM.out]
    exact HZ.out
  · have xl := HM0.out.rn 0 (by decide)
    go_simp
    refine hK.out _ _ hHeld (fun hHeld => ?_)
    clear hK K xl
    refine wpAnyH_ready (rs := [4, 10]) (by kernel_rfl) (by simp) ?_
    refine AllReadyH.cons rfl (fun K hK => ?_) (AllReadyH.cons rfl (fun K hK => ?_) AllReadyH.nil)
    · have xl := HM0.out.cells.2.2.2.2.2.2.1
      go_simp
      refine hK.out _ _ hHeld (fun hHeld => ?_)
      clear hK K xl
      refine wpAnyH_ready (rs := [10]) (by kernel_rfl) (by simp) ?_
      refine AllReadyH.cons rfl (fun K hK => ?_) AllReadyH.nil
      go_simp
      generalize hWn : World.alloc V0 _ = V1
      have hb1 : Below V0.heap.size V0 V1 := by rw [← hWn]; exact oalloc _ _
      have HN : Hid (V1.heap[V0.heap.size]? = some (.cells #[.int .i64 (m.r 0)] 3 (0, 0))) := by unfold Hid; rw [← hWn]; exact blk_new V0 _ _
      have hH1 := (hb1.block _ (Array.getElem?_eq_some_iff.1 hHeld).1).trans hHeld
      have HM1 := Lib.hid (HM0.out.next hb1)
      have HB1 := Lib.hid (HB0.out.trans (hb1.mono HB0.out.size))
      refine hK.out _ _ hH1 (fun hHeld => ?_)
      clear hK K hb1 hH1 hWn
      refine wpAnyH_ready (rs := [11]) (by kernel_rfl) (by simp) ?_
      refine AllReadyH.cons rfl (fun K hK => ?_) AllReadyH.nil
      obtain ⟨ta', tc', V2, happ, hgr, x22, xf, hk2, hm2⟩ := HM1.out.app V0.heap.size (m.r 0) HN.out htl
      have HA := Lib.hid happ
      have HZ := Lib.hid (HDONE.out _ _ _ _ HB1.out hk2 hm2)
      have hH2 : V2.heap[W.heap.size]? = some (.cells #[.int .i64 op, .int .i64 n, .int .i64 mm, .int .i64 imm] 45 (0, 0)) := by
        rw [hgr.block _ (Array.getElem?_eq_some_iff.1 hHeld).1 (by
          rcases own_ne HM1.out.tt hHeld (by decide) with e | e
          · rw [e]; simp
          · exact fun e' => e e'.symm)]
        exact hHeld
      clear happ hgr hk2 hm2
      refine step_app_eq (by rfl) 87 (by rfl) _ _ _ _ (by rfl) _ _ (by rfl) (by rfl) HA.out ?_
      simp only [List.setIfInBounds_toArray, List.set_cons_zero, List.set_cons_succ]
      refine hK.out _ _ hH2 (fun hHeld => ?_)
      clear hK K HA hH2
      refine take_at 12 88 (v := ?_) rfl rfl (by kernel_rfl) (by kernel_rfl) (by kernel_rfl) (fun _ _ _ h => h) rfl ?_ hHeld ?_
      rotate_left
      · intro w hSw
        go_simp
        try with_reducible rfl
      simp only [List.setIfInBounds_toArray, List.set_cons_zero, List.set_cons_succ]
      refine take_at 13 89 (v := ?_) rfl rfl (by kernel_rfl) (by kernel_rfl) (by kernel_rfl) (fun _ _ _ h => h) rfl ?_ hHeld ?_
      rotate_left
      · intro w hSw
        go_simp
        try with_reducible rfl
      simp only [List.setIfInBounds_toArray, List.set_cons_zero, List.set_cons_succ]
      refine wpAnyH_ready (rs := [14]) (by kernel_rfl) (by simp) ?_
      refine AllReadyH.cons rfl (fun K hK => ?_) AllReadyH.nil
      go_simp
      refine hK.out _ _ (by show (World.setCell V2 ⟨g, 22, none⟩ _).heap[W.heap.size]? = _; rw [Below.heap_setCell _ _ _ _ (by exact hgne)]; exact hHeld) (fun hHeld => ?_)
      clear hK K x22 xf
      refine wpAnyH_done (by kernel_rfl) ?_ _
      refine NoPanic.normal ?_
      go_wp2
      go_ret
      refine ⟨by rw [HE.out]; rfl, ?_⟩
      rw [HMM.out]
      exact HZ.out
    · go_simp
      generalize hWn : World.alloc V0 _ = V1
      have hb1 : Below V0.heap.size V0 V1 := by rw [← hWn]; exact oalloc _ _
      have HN : Hid (V1.heap[V0.heap.size]? = some (.cells #[.int .i64 (m.r 0)] 3 (0, 0))) := by unfold Hid; rw [← hWn]; exact blk_new V0 _ _
      have hH1 := (hb1.block _ (Array.getElem?_eq_some_iff.1 hHeld).1).trans hHeld
      have HM1 := Lib.hid (HM0.out.next hb1)
      have HB1 := Lib.hid (HB0.out.trans (hb1.mono HB0.out.size))
      refine hK.out _ _ hH1 (fun hHeld => ?_)
      clear hK K hb1 hH1 hWn
      refine wpAnyH_ready (rs := [4]) (by kernel_rfl) (by simp) ?_
      refine AllReadyH.cons rfl (fun K hK => ?_) AllReadyH.nil
      have xl := HM1.out.cells.2.2.2.2.2.2.1
      go_simp
      refine hK.out _ _ hHeld (fun hHeld => ?_)
      clear hK K xl
      refine wpAnyH_ready (rs := [11]) (by kernel_rfl) (by simp) ?_
      refine AllReadyH.cons rfl (fun K hK => ?_) AllReadyH.nil
      obtain ⟨ta', tc', V2, happ, hgr, x22, xf, hk2, hm2⟩ := HM1.out.app V0.heap.size (m.r 0) HN.out htl
      have HA := Lib.hid happ
      have HZ := Lib.hid (HDONE.out _ _ _ _ HB1.out hk2 hm2)
      have hH2 : V2.heap[W.heap.size]? = some (.cells #[.int .i64 op, .int .i64 n, .int .i64 mm, .int .i64 imm] 45 (0, 0)) := by
        rw [hgr.block _ (Array.getElem?_eq_some_iff.1 hHeld).1 (by
          rcases own_ne HM1.out.tt hHeld (by decide) with e | e
          · rw [e]; simp
          · exact fun e' => e e'.symm)]
        exact hHeld
      clear happ hgr hk2 hm2
      refine step_app_eq (by rfl) 87 (by rfl) _ _ _ _ (by rfl) _ _ (by rfl) (by rfl) HA.out ?_
      simp only [List.setIfInBounds_toArray, List.set_cons_zero, List.set_cons_succ]
      refine hK.out _ _ hH2 (fun hHeld => ?_)
      clear hK K HA hH2
      refine take_at 12 88 (v := ?_) rfl rfl (by kernel_rfl) (by kernel_rfl) (by kernel_rfl) (fun _ _ _ h => h) rfl ?_ hHeld ?_
      rotate_left
      · intro w hSw
        go_simp
        try with_reducible rfl
      simp only [List.setIfInBounds_toArray, List.set_cons_zero, List.set_cons_succ]
      refine take_at 13 89 (v := ?_) rfl rfl (by kernel_rfl) (by kernel_rfl) (by kernel_rfl) (fun _ _ _ h => h) rfl ?_ hHeld ?_
      rotate_left
      · intro w hSw
        go_simp
        try with_reducible rfl
      simp only [List.setIfInBounds_toArray, List.set_cons_zero, List.set_cons_succ]
      refine wpAnyH_ready (rs := [14]) (by kernel_rfl) (by simp) ?_
      refine AllReadyH.cons rfl (fun K hK => ?_) AllReadyH.nil
      go_simp
      refine hK.out _ _ (by show (World.setCell V2 ⟨g, 22, none⟩ _).heap[W.heap.size]? = _; rw [Below.heap_setCell _ _ _ _ (by exact hgne)]; exact hHeld) (fun hHeld => ?_)
      clear hK K x22 xf
      refine wpAnyH_done (by kernel_rfl) ?_ _
      refine NoPanic.normal ?_
      go_wp2
      go_ret
      refine ⟨by rw [HE.out]; rfl, ?_⟩
      rw [HMM.out]
      exact HZ.out

end Go.Proofs.YtabepbaldadmgaaDoor
