/- The program's own sim: put. The program's own sim: load, and do: what reads the image. The program's own sim: do: what makes a register of numbers. The program's own sim: do: what gets, what puts, what tells. -/
import Derived.Test.YtgjmbjahgcndnaaGreatDoorPut14
import Derived.Test.YtgjmbjahgcndnaaGreatDoorPut4
import Derived.Test.YtgjmbjahgcndnaaGreatDoorPut8
namespace Go.Proofs.YtgjmbjahgcndnaaGreatDoor.Si
open Go.RowKit Isa

end Go.Proofs.YtgjmbjahgcndnaaGreatDoor.Si

namespace Go.Proofs.YtgjmbjahgcndnaaGreatDoor.Si
open Go.RowKit Isa

set_option maxRecDepth 100000 in
set_option maxHeartbeats 2000000 in
theorem load_any (K g : Nat) (m : Ma) (gb bc : Nat) (s0 : Option Addr) (s1 s2 : Nat) (ta : Option Addr) (tc : Nat) (op n mm imm at' size : Int) (W : World) (h : MR K g m gb bc (.slice s0 s1 s2) ta tc W) (hs : size = 2 ∨ size = 4) (hM : MOk m) (ha0 : 0 ≤ at') (ha1 : at' ≤ 1000000000000) (hi0 : -10000 ≤ imm) (hi1 : imm ≤ 10000) (hn0 : 0 ≤ n) (hn1 : n ≤ 15) :
    Calls Tryz.prog 52 #[.pointer (some ⟨g, 0, none⟩), .agg #[.int .i64 op, .int .i64 n, .int .i64 mm, .int .i64 imm], .int .i64 at', .int .i64 size] W fun e W' => e = .returned (.int .i64 (if hasB m (toI op imm at') size = false then 3 else 0)) ∧ PP W.heap.size K g gb bc (.slice s0 s1 s2) (if hasB m (toI op imm at') size = false then m else setR m n.toNat (loadS m (toI op imm at') size)) W W' := by
  have hto := toI_near op imm at' ha0 hi0 hi1
  obtain ⟨V, hV⟩ : ∃ V, V = W.alloc (.cells #[.int .i64 op, .int .i64 n, .int .i64 mm, .int .i64 imm] 71) := ⟨_, rfl⟩
  have hb : Below W.heap.size W V := by rw [hV]; exact oalloc _ _
  have kV : V.heap[W.heap.size]? = some (.cells #[.int .i64 op, .int .i64 n, .int .i64 mm, .int .i64 imm] 71 (0, 0)) := by rw [hV]; exact blk_new _ _ _
  have hT := to_any op n mm imm at' V (h.la.below hb h.la.sz) ha0 ha1 hi0 hi1
  have HG : Hid (∀ X, Below W.heap.size W X → Calls Tryz.prog 53 #[.pointer (some ⟨g, 0, none⟩), .int .i64 n, .int .i64 (toI op imm at'), .int .i64 size] X fun e W' => e = .returned (.int .i64 (if hasB m (toI op imm at') size = false then 3 else 0)) ∧ PP W.heap.size K g gb bc (.slice s0 s1 s2) (if hasB m (toI op imm at') size = false then m else setR m n.toNat (loadS m (toI op imm at') size)) W W') := fun X hX => by
    have hMR := h.next hX
    by_cases hh : hasB m (toI op imm at') size = false
    · rw [if_pos hh, if_pos hh]
      exact (get_no K g m gb bc s0 s1 s2 ta tc n (toI op imm at') size X hMR hs hM (by omega) (by omega) hh).mono fun _ _ ⟨h1, h2⟩ => ⟨h1, PP.after hX (PP.of hMR h2 (Nat.le_refl _)) (Nat.le_refl _)⟩
    · rw [if_neg hh, if_neg hh]
      exact (get_yes K g m gb bc s0 s1 s2 ta tc n (toI op imm at') size X hMR hs hM (by omega) (by omega) hn0 hn1 (by simpa using hh)).mono fun _ _ ⟨h1, h2⟩ => ⟨h1, PP.after hX h2 (Nat.le_refl _)⟩
  have HT := Lib.hid hT
  have c0 := cell_of_block (i := 0) kV rfl
  have c1 := cell_of_block (i := 1) kV rfl
  have c2 := cell_of_block (i := 2) kV rfl
  have c3 := cell_of_block (i := 3) kV rfl
  have hlt := (Array.getElem?_eq_some_iff.1 kV).1
  have HV := Lib.hid hV.symm
  have HB := Lib.hid hb
  have HK := Lib.hid kV
  clear hV hb kV hT h hM
  generalize (if hasB m (toI op imm at') size = false then (3 : Int) else 0) = EE at *
  generalize (if hasB m (toI op imm at') size = false then m else setR m n.toNat (loadS m (toI op imm at') size)) = MM at *
  generalize toI op imm at' = to' at *
  generalize toB op = tb at *
  go_enter Tryz.func52, Tryz.ntmps52
  go_upto_region 1 with fail
  rw [HV.out]
  go_wp2_with (first | (go_at_call 82; refine HT.out.mono ?_; rintro e W1 ⟨rfl, hb1⟩; have c1' : W1.cell? ⟨W.heap.size, 1, none⟩ = some (.int .i64 n) := cell_of_block (i := 1) ((hb1.block _ hlt).trans HK.out) rfl; have HB1 := Lib.hid (HB.out.trans (hb1.mono HB.out.size)); clear hb1) | (go_at_call 53; refine (HG.out _ HB1.out).mono ?_; rintro e W2 ⟨rfl, hp2⟩; have HP2 := Lib.hid hp2; clear hp2) | fail)
  go_ret
  exact ⟨rfl, HP2.out⟩

theorem get_either (K g : Nat) (m : Ma) (gb bc : Nat) (s0 : Option Addr) (s1 s2 : Nat) (ta : Option Addr) (tc : Nat) (n a size : Int) (X : World) (h : MR K g m gb bc (.slice s0 s1 s2) ta tc X) (hs : size = 2 ∨ size = 4) (hM : MOk m) (ha0 : -4611686018427387904 ≤ a) (ha1 : a ≤ 4611686018427387904) (hn0 : 0 ≤ n) (hn1 : n ≤ 15) :
    Calls Tryz.prog 53 #[.pointer (some ⟨g, 0, none⟩), .int .i64 n, .int .i64 a, .int .i64 size] X fun e W' => e = .returned (.int .i64 (if hasB m a size = false then 3 else 0)) ∧ PP X.heap.size K g gb bc (.slice s0 s1 s2) (if hasB m a size = false then m else setR m n.toNat (loadS m a size)) X W' := by
  by_cases hh : hasB m a size = false
  · rw [if_pos hh, if_pos hh]
    exact (get_no K g m gb bc s0 s1 s2 ta tc n a size X h hs hM ha0 ha1 hh).mono fun _ _ ⟨h1, h2⟩ => ⟨h1, PP.of h h2 (Nat.le_refl _)⟩
  · rw [if_neg hh, if_neg hh]
    exact get_yes K g m gb bc s0 s1 s2 ta tc n a size X h hs hM ha0 ha1 hn0 hn1 (by simpa using hh)
end Go.Proofs.YtgjmbjahgcndnaaGreatDoor.Si

namespace Go.Proofs.YtgjmbjahgcndnaaGreatDoor.Si
open Go.RowKit Isa

theorem setR_same (m : Ma) (k : Nat) : setR m k (m.r k) = m := by
  unfold setR
  have : (fun j => if j = k then m.r k else m.r j) = m.r := by
    funext j
    by_cases h : j = k
    · rw [if_pos h, h]
    · rw [if_neg h]
  rw [this]
theorem a32_id {m : Ma} {n : Int} (h0 : -2147483648 ≤ m.r n.toNat) (h1 : m.r n.toNat ≤ 2147483647) : a32 m n = m.r n.toNat := w32_id h0 h1
theorem made_plain (m : Ma) (op n mm imm at' : Int) (h : op = 1 ∨ (3 ≤ op ∧ op ≤ 10)) (rn0 : -2147483648 ≤ m.r n.toNat) (rn1 : m.r n.toNat ≤ 2147483647) (rm0 : -2147483648 ≤ m.r mm.toNat) (rm1 : m.r mm.toNat ≤ 2147483647) : plainM m op n mm imm at' = setR m n.toNat (madeV op imm (m.r n.toNat) (m.r mm.toNat)) := by
  have e1 := a32_id (m := m) (n := n) rn0 rn1
  have e2 := a32_id (m := m) (n := mm) rm0 rm1
  obtain rfl | rfl | rfl | rfl | rfl | rfl | rfl | rfl | rfl : op = 1 ∨ op = 3 ∨ op = 4 ∨ op = 5 ∨ op = 6 ∨ op = 7 ∨ op = 8 ∨ op = 9 ∨ op = 10 := by omega
  · exact (setR_same m n.toNat).symm
  all_goals
    unfold plainM madeV
    simp [e1, e2]

set_option maxHeartbeats 8000000 in
set_option maxRecDepth 100000 in
theorem do_made (K g : Nat) (m : Ma) (gb bc : Nat) (s0 : Option Addr) (s1 s2 : Nat) (ta : Option Addr) (tc : Nat) (op n mm imm at' : Int) (W : World) (h : MR K g m gb bc (.slice s0 s1 s2) ta tc W) (hM : MOk m) (hr : ∀ k, in32 (m.r k)) (ha0 : 0 ≤ at') (ha1 : at' ≤ 1000000000000) (hi0 : -10000 ≤ imm) (hi1 : imm ≤ 10000) (hn0 : 0 ≤ n) (hn1 : n ≤ 15) (hm0 : 0 ≤ mm) (hm1 : mm ≤ 15) (hop : op = 1 ∨ (3 ≤ op ∧ op ≤ 10)) :
    Calls Tryz.prog 29 #[.pointer (some ⟨g, 0, none⟩), .agg #[.int .i64 op, .int .i64 n, .int .i64 mm, .int .i64 imm], .int .i64 at'] W fun e W' => e = .returned (.int .i64 (plainE m op n mm imm at')) ∧ PP K K g gb bc (.slice s0 s1 s2) (plainM m op n mm imm at') W W' := by
  have hused := And.intro hM (And.intro ha0 (And.intro ha1 (And.intro hi0 (And.intro hi1 (And.intro hm0 hm1)))))
  clear hused
  obtain ⟨V, hV⟩ : ∃ V, V = W.alloc (.cells #[.int .i64 op, .int .i64 n, .int .i64 mm, .int .i64 imm] 71) := ⟨_, rfl⟩
  have hb : Below W.heap.size W V := by rw [hV]; exact oalloc _ _
  have kV : V.heap[W.heap.size]? = some (.cells #[.int .i64 op, .int .i64 n, .int .i64 mm, .int .i64 imm] 71 (0, 0)) := by rw [hV]; exact blk_new _ _ _
  have c0 := cell_of_block (i := 0) kV rfl
  have hgW : g < W.heap.size := h.lt
  have hgne : W.heap.size ≠ g := by omega
  have hn16 : n.toNat < 16 := by omega
  have hm16 : mm.toNat < 16 := by omega
  have hn2 : n < 16 := by omega
  have hm2 : mm < 16 := by omega
  obtain ⟨rn0, rn1⟩ := hr n.toNat
  obtain ⟨rm0, rm1⟩ := hr mm.toNat
  have HV := Lib.hid hV.symm
  have HK0 : Hid (V.drew.heap[W.heap.size]? = some (.cells #[.int .i64 op, .int .i64 n, .int .i64 mm, .int .i64 imm] 71 (0, 0))) := kV
  have HB0 := Lib.hid hb.drew
  have HM0 := Lib.hid (h.next hb.drew)
  have HW := Lib.hid h
  have HC : Hid (∀ X, Calls Tryz.prog 57 #[.agg #[.int .i64 op, .int .i64 n, .int .i64 mm, .int .i64 imm], .int .i64 (m.r n.toNat), .int .i64 (m.r mm.toNat)] X fun e w' => e = .returned (.int .i64 (madeV op imm (m.r n.toNat) (m.r mm.toNat))) ∧ Below X.heap.size X w') := fun X => made_any op n mm imm _ _ X hop hi0 hi1 rn0 rn1 rm0 rm1
  have HE : Hid (plainE m op n mm imm at' = 0) := by
    unfold Hid plainE
    rw [if_neg (by omega)]
  have HMM : Hid (plainM m op n mm imm at' = setR m n.toNat (madeV op imm (m.r n.toNat) (m.r mm.toNat))) := made_plain m op n mm imm at' hop rn0 rn1 rm0 rm1
  have ho1 : 1 ≤ op := by omega
  have ho2 : op ≤ 10 := by omega
  clear hV hb kV h hM hr
  go_enter Tryz.func29, Tryz.ntmps29
  go_upto_region 1 with fail
  rw [HV.out]
  clear HV
  go_upto_region 2 with fail
  refine wp_region_noPanic ?_
  refine wp_region_held_drew (S := fun w' => w'.heap[W.heap.size]? = some (.cells #[.int .i64 op, .int .i64 n, .int .i64 mm, .int .i64 imm] 71 (0, 0))) (by kernel_rfl) HK0.out (fun hHeld => ?_)
  generalize V.drew = V0 at *
  clear HK0 c0
  refine take_at 0 9 (v := ?_) rfl rfl (by kernel_rfl) (by kernel_rfl) (by kernel_rfl) (fun _ _ _ h => h) rfl ?_ hHeld ?_
  rotate_left
  · intro w hSw
    go_simp
    try with_reducible rfl
  simp only [List.setIfInBounds_toArray, List.set_cons_zero, List.set_cons_succ]
  refine take_at 1 10 (v := ?_) rfl rfl (by kernel_rfl) (by kernel_rfl) (by kernel_rfl) (fun _ _ _ h => h) rfl ?_ hHeld ?_
  rotate_left
  · intro w hSw
    go_simp
    try with_reducible rfl
  simp only [List.setIfInBounds_toArray, List.set_cons_zero, List.set_cons_succ]
  refine take_at 2 11 (v := ?_) rfl rfl (by kernel_rfl) (by kernel_rfl) (by kernel_rfl) (fun _ _ _ h => h) rfl ?_ hHeld ?_
  rotate_left
  · intro w hSw
    have y := cell_of_block (i := 1) hSw rfl
    go_simp
    try with_reducible rfl
  simp only [List.setIfInBounds_toArray, List.set_cons_zero, List.set_cons_succ]
  refine take_at 3 12 (v := ?_) rfl rfl (by kernel_rfl) (by kernel_rfl) (by kernel_rfl) (fun _ _ _ h => h) rfl ?_ hHeld ?_
  rotate_left
  · intro w hSw
    have y0 := cell_of_block (i := 0) hSw rfl
    have y1 := cell_of_block (i := 1) hSw rfl
    have y2 := cell_of_block (i := 2) hSw rfl
    have y3 := cell_of_block (i := 3) hSw rfl
    go_simp
    try with_reducible rfl
  simp only [List.setIfInBounds_toArray, List.set_cons_zero, List.set_cons_succ]
  refine take_at 4 13 (v := ?_) rfl rfl (by kernel_rfl) (by kernel_rfl) (by kernel_rfl) (fun _ _ _ h => h) rfl ?_ hHeld ?_
  rotate_left
  · intro w hSw
    go_simp
    try with_reducible rfl
  simp only [List.setIfInBounds_toArray, List.set_cons_zero, List.set_cons_succ]
  refine take_at 5 14 (v := ?_) rfl rfl (by kernel_rfl) (by kernel_rfl) (by kernel_rfl) (fun _ _ _ h => h) rfl ?_ hHeld ?_
  rotate_left
  · intro w hSw
    go_simp
    try with_reducible rfl
  simp only [List.setIfInBounds_toArray, List.set_cons_zero, List.set_cons_succ]
  refine take_at 6 15 (v := ?_) rfl rfl (by kernel_rfl) (by kernel_rfl) (by kernel_rfl) (fun _ _ _ h => h) rfl ?_ hHeld ?_
  rotate_left
  · intro w hSw
    have y := cell_of_block (i := 1) hSw rfl
    go_simp
    try with_reducible rfl
  simp only [List.setIfInBounds_toArray, List.set_cons_zero, List.set_cons_succ]
  refine take_at 7 16 (v := ?_) rfl rfl (by kernel_rfl) (by kernel_rfl) (by kernel_rfl) (fun _ _ _ h => h) rfl ?_ hHeld ?_
  rotate_left
  · intro w hSw
    go_simp
    try with_reducible rfl
  simp only [List.setIfInBounds_toArray, List.set_cons_zero, List.set_cons_succ]
  refine take_at 8 17 (v := ?_) rfl rfl (by kernel_rfl) (by kernel_rfl) (by kernel_rfl) (fun _ _ _ h => h) rfl ?_ hHeld ?_
  rotate_left
  · intro w hSw
    go_simp
    try with_reducible rfl
  simp only [List.setIfInBounds_toArray, List.set_cons_zero, List.set_cons_succ]
  refine take_at 9 18 (v := ?_) rfl rfl (by kernel_rfl) (by kernel_rfl) (by kernel_rfl) (fun _ _ _ h => h) rfl ?_ hHeld ?_
  rotate_left
  · intro w hSw
    go_simp
    try with_reducible rfl
  simp only [List.setIfInBounds_toArray, List.set_cons_zero, List.set_cons_succ]
  refine take_at 11 20 (v := ?_) rfl rfl (by kernel_rfl) (by kernel_rfl) (by kernel_rfl) (fun _ _ _ h => h) rfl ?_ hHeld ?_
  rotate_left
  · intro w hSw
    go_simp
    try with_reducible rfl
  simp only [List.setIfInBounds_toArray, List.set_cons_zero, List.set_cons_succ]
  refine take_at 12 21 (v := ?_) rfl rfl (by kernel_rfl) (by kernel_rfl) (by kernel_rfl) (fun _ _ _ h => h) rfl ?_ hHeld ?_
  rotate_left
  · intro w hSw
    go_simp
    try with_reducible rfl
  simp only [List.setIfInBounds_toArray, List.set_cons_zero, List.set_cons_succ]
  refine take_at 13 22 (v := ?_) rfl rfl (by kernel_rfl) (by kernel_rfl) (by kernel_rfl) (fun _ _ _ h => h) rfl ?_ hHeld ?_
  rotate_left
  · intro w hSw
    have y := cell_of_block (i := 2) hSw rfl
    go_simp
    try with_reducible rfl
  simp only [List.setIfInBounds_toArray, List.set_cons_zero, List.set_cons_succ]
  refine take_at 14 23 (v := ?_) rfl rfl (by kernel_rfl) (by kernel_rfl) (by kernel_rfl) (fun _ _ _ h => h) rfl ?_ hHeld ?_
  rotate_left
  · intro w hSw
    go_simp
    try with_reducible rfl
  simp only [List.setIfInBounds_toArray, List.set_cons_zero, List.set_cons_succ]
  refine take_at 15 24 (v := ?_) rfl rfl (by kernel_rfl) (by kernel_rfl) (by kernel_rfl) (fun _ _ _ h => h) rfl ?_ hHeld ?_
  rotate_left
  · intro w hSw
    go_simp
    try with_reducible rfl
  simp only [List.setIfInBounds_toArray, List.set_cons_zero, List.set_cons_succ]
  refine take_at 16 25 (v := ?_) rfl rfl (by kernel_rfl) (by kernel_rfl) (by kernel_rfl) (fun _ _ _ h => h) rfl ?_ hHeld ?_
  rotate_left
  · intro w hSw
    go_simp
    try with_reducible rfl
  simp only [List.setIfInBounds_toArray, List.set_cons_zero, List.set_cons_succ]
  refine take_at 19 28 (v := ?_) rfl rfl (by kernel_rfl) (by kernel_rfl) (by kernel_rfl) (fun _ _ _ h => h) rfl ?_ hHeld ?_
  rotate_left
  · intro w hSw
    go_simp
    try with_reducible rfl
  simp only [List.setIfInBounds_toArray, List.set_cons_zero, List.set_cons_succ]
  refine take_at 20 29 (v := ?_) rfl rfl (by kernel_rfl) (by kernel_rfl) (by kernel_rfl) (fun _ _ _ h => h) rfl ?_ hHeld ?_
  rotate_left
  · intro w hSw
    go_simp
    try with_reducible rfl
  simp only [List.setIfInBounds_toArray, List.set_cons_zero, List.set_cons_succ]
  refine wpAnyH_ready (rs := [10, 17]) (by kernel_rfl) (by simp) ?_
  refine AllReadyH.cons rfl (fun K hK => ?_) (AllReadyH.cons rfl (fun K hK => ?_) AllReadyH.nil)
  · have xl := HM0.out.rn n.toNat hn16
    go_simp
    refine hK.out _ _ hHeld (fun hHeld => ?_)
    clear hK K xl
    refine wpAnyH_ready (rs := [17]) (by kernel_rfl) (by simp) ?_
    refine AllReadyH.cons rfl (fun K hK => ?_) AllReadyH.nil
    have xl := HM0.out.rn mm.toNat hm16
    go_simp
    refine hK.out _ _ hHeld (fun hHeld => ?_)
    clear hK K xl
    refine wpAnyH_ready (rs := [18]) (by kernel_rfl) (by simp) ?_
    refine AllReadyH.cons rfl (fun K hK => ?_) AllReadyH.nil
    go_simp
    refine (HC.out V0).mono ?_
    rintro e V1 ⟨rfl, hb1⟩
    have hH1 := (hb1.block _ (Array.getElem?_eq_some_iff.1 hHeld).1).trans hHeld
    have HM1 := Lib.hid (HM0.out.next hb1)
    have HB1 := Lib.hid (HB0.out.trans (hb1.mono HB0.out.size))
    refine hK.out _ _ hH1 (fun hHeld => ?_)
    clear hK K hb1 hH1 HM0 HB0
    refine take_at 21 30 (v := ?_) rfl rfl (by kernel_rfl) (by kernel_rfl) (by kernel_rfl) (fun _ _ _ h => h) rfl ?_ hHeld ?_
    rotate_left
    · intro w hSw
      go_simp
      try with_reducible rfl
    simp only [List.setIfInBounds_toArray, List.set_cons_zero, List.set_cons_succ]
    refine wpAnyH_ready (rs := [22]) (by kernel_rfl) (by simp) ?_
    refine AllReadyH.cons rfl (fun K hK => ?_) AllReadyH.nil
    have xs := HM1.out.rn n.toNat hn16
    have xf := HM1.out.fz n.toNat
    go_simp
    refine hK.out _ _ (by show (World.setCell V1 ⟨g, n.toNat, none⟩ _).heap[W.heap.size]? = _; rw [Below.heap_setCell _ _ _ _ (by exact hgne)]; exact hHeld) (fun hHeld => ?_)
    clear hK K xs xf
    refine wpAnyH_done (by kernel_rfl) ?_ _
    refine NoPanic.normal ?_
    go_wp2
    go_ret
    refine ⟨by rw [HE.out]; rfl, ?_⟩
    rw [HMM.out]
    exact (PP.of HW.out HB1.out HW.out.kz).reg n.toNat hn16 _
  · have xl := HM0.out.rn mm.toNat hm16
    go_simp
    refine hK.out _ _ hHeld (fun hHeld => ?_)
    clear hK K xl
    refine wpAnyH_ready (rs := [10]) (by kernel_rfl) (by simp) ?_
    refine AllReadyH.cons rfl (fun K hK => ?_) AllReadyH.nil
    have xl := HM0.out.rn n.toNat hn16
    go_simp
    refine hK.out _ _ hHeld (fun hHeld => ?_)
    clear hK K xl
    refine wpAnyH_ready (rs := [18]) (by kernel_rfl) (by simp) ?_
    refine AllReadyH.cons rfl (fun K hK => ?_) AllReadyH.nil
    go_simp
    refine (HC.out V0).mono ?_
    rintro e V1 ⟨rfl, hb1⟩
    have hH1 := (hb1.block _ (Array.getElem?_eq_some_iff.1 hHeld).1).trans hHeld
    have HM1 := Lib.hid (HM0.out.next hb1)
    have HB1 := Lib.hid (HB0.out.trans (hb1.mono HB0.out.size))
    refine hK.out _ _ hH1 (fun hHeld => ?_)
    clear hK K hb1 hH1 HM0 HB0
    refine take_at 21 30 (v := ?_) rfl rfl (by kernel_rfl) (by kernel_rfl) (by kernel_rfl) (fun _ _ _ h => h) rfl ?_ hHeld ?_
    rotate_left
    · intro w hSw
      go_simp
      try with_reducible rfl
    simp only [List.setIfInBounds_toArray, List.set_cons_zero, List.set_cons_succ]
    refine wpAnyH_ready (rs := [22]) (by kernel_rfl) (by simp) ?_
    refine AllReadyH.cons rfl (fun K hK => ?_) AllReadyH.nil
    have xs := HM1.out.rn n.toNat hn16
    have xf := HM1.out.fz n.toNat
    go_simp
    refine hK.out _ _ (by show (World.setCell V1 ⟨g, n.toNat, none⟩ _).heap[W.heap.size]? = _; rw [Below.heap_setCell _ _ _ _ (by exact hgne)]; exact hHeld) (fun hHeld => ?_)
    clear hK K xs xf
    refine wpAnyH_done (by kernel_rfl) ?_ _
    refine NoPanic.normal ?_
    go_wp2
    go_ret
    refine ⟨by rw [HE.out]; rfl, ?_⟩
    rw [HMM.out]
    exact (PP.of HW.out HB1.out HW.out.kz).reg n.toNat hn16 _

end Go.Proofs.YtgjmbjahgcndnaaGreatDoor.Si

namespace Go.Proofs.YtgjmbjahgcndnaaGreatDoor.Si
open Go.RowKit Isa

theorem get_plain (m : Ma) (op n mm imm at' : Int) (h : op = 26) (rm0 : -2147483648 ≤ m.r mm.toNat) (rm1 : m.r mm.toNat ≤ 2147483647) : plainE m op n mm imm at' = (if hasB m (m.r mm.toNat) 4 = false then 3 else 0) ∧ plainM m op n mm imm at' = (if hasB m (m.r mm.toNat) 4 = false then m else setR m n.toNat (loadS m (m.r mm.toNat) 4)) := by
  have e2 := a32_id (m := m) (n := mm) rm0 rm1
  subst h
  constructor
  · unfold plainE memAt memSz
    simp [e2]
  · unfold plainM memAt memSz
    simp [e2]
/-- An append whose run is known, as a step of a region that draws. -/
theorem step_app_eq {P : Program} {ops : Array Oper} {o : Oper} {a : Act} {w : World} {K : Act → World → Prop} {Q : Exit → Act → World → Prop} {E : Prop} (hgd : o.guard = none) (d : Nat) (hd : o.dst = some d) (sl x : Operand) (t u : TypeId)
    (ho : o.op = .call { callee := .builtin .append, args := #[sl, x], argTypes := #[t, u] }) (v v2 : Value) (hs : a.eval sl = v) (hx : a.eval x = v2) {v' : Value} {w' : World}
    (hr : ∀ ty, (Builtin.append_ #[t, u] ty #[v, v2]).run P w = .ok v' w') (h : K ⟨a.tmps.setIfInBounds d v', a.defers⟩ w') : if Region.wanted o (yielded ops a.tmps) = true then Oper.wp P o a w K Q else E := by
  have hw : Region.wanted o (yielded ops a.tmps) = true := by simp [Region.wanted, hgd]
  rw [if_pos hw]
  have hr := hr o.type
  unfold Oper.wp execOp
  simp only [ho, resolve, invoke, builtin, Sem.run_bind, Sem.run_pure, Result.andThen_ok, List.map_toArray, List.map_cons, List.map_nil, hs, hx, hr]
  show K (a.put o.dst v') w'
  rw [hd]
  exact h

set_option maxHeartbeats 8000000 in
set_option maxRecDepth 100000 in
theorem do_get (K g : Nat) (m : Ma) (gb bc : Nat) (s0 : Option Addr) (s1 s2 : Nat) (ta : Option Addr) (tc : Nat) (op n mm imm at' : Int) (W : World) (h : MR K g m gb bc (.slice s0 s1 s2) ta tc W) (hM : MOk m) (hr : ∀ k, in32 (m.r k)) (ha0 : 0 ≤ at') (ha1 : at' ≤ 1000000000000) (hi0 : -10000 ≤ imm) (hi1 : imm ≤ 10000) (hn0 : 0 ≤ n) (hn1 : n ≤ 15) (hm0 : 0 ≤ mm) (hm1 : mm ≤ 15) (hop : op = 26) :
    Calls Tryz.prog 29 #[.pointer (some ⟨g, 0, none⟩), .agg #[.int .i64 op, .int .i64 n, .int .i64 mm, .int .i64 imm], .int .i64 at'] W fun e W' => e = .returned (.int .i64 (plainE m op n mm imm at')) ∧ PP K K g gb bc (.slice s0 s1 s2) (plainM m op n mm imm at') W W' := by
  have hused := And.intro hM (And.intro ha0 (And.intro ha1 (And.intro hi0 (And.intro hi1 (And.intro hm0 hm1)))))
  clear hused
  obtain ⟨V, hV⟩ : ∃ V, V = W.alloc (.cells #[.int .i64 op, .int .i64 n, .int .i64 mm, .int .i64 imm] 71) := ⟨_, rfl⟩
  have hb : Below W.heap.size W V := by rw [hV]; exact oalloc _ _
  have kV : V.heap[W.heap.size]? = some (.cells #[.int .i64 op, .int .i64 n, .int .i64 mm, .int .i64 imm] 71 (0, 0)) := by rw [hV]; exact blk_new _ _ _
  have c0 := cell_of_block (i := 0) kV rfl
  have hgW : g < W.heap.size := h.lt
  have hgne : W.heap.size ≠ g := by omega
  have hn16 : n.toNat < 16 := by omega
  have hm16 : mm.toNat < 16 := by omega
  have hn2 : n < 16 := by omega
  have hm2 : mm < 16 := by omega
  obtain ⟨rn0, rn1⟩ := hr n.toNat
  obtain ⟨rm0, rm1⟩ := hr mm.toNat
  have HV := Lib.hid hV.symm
  have HK0 : Hid (V.drew.heap[W.heap.size]? = some (.cells #[.int .i64 op, .int .i64 n, .int .i64 mm, .int .i64 imm] 71 (0, 0))) := kV
  have HB0 := Lib.hid hb.drew
  have HM0 := Lib.hid (h.next hb.drew)
  have HW := Lib.hid h
  have HC : Hid (∀ X, MR K g m gb bc (.slice s0 s1 s2) ta tc X → Calls Tryz.prog 53 #[.pointer (some ⟨g, 0, none⟩), .int .i64 n, .int .i64 (m.r mm.toNat), .int .i64 4] X fun e W' => e = .returned (.int .i64 (plainE m op n mm imm at')) ∧ PP X.heap.size K g gb bc (.slice s0 s1 s2) (plainM m op n mm imm at') X W') := fun X hX => by
    rw [(get_plain m op n mm imm at' hop rm0 rm1).1, (get_plain m op n mm imm at' hop rm0 rm1).2]
    exact get_either K g m gb bc s0 s1 s2 ta tc n (m.r mm.toNat) 4 X hX (Or.inr rfl) hM (by omega) (by omega) hn0 hn1
  have hgbne : W.heap.size ≠ gb := by have := (Array.getElem?_eq_some_iff.1 h.bb).1; omega
  generalize plainE m op n mm imm at' = EE at *
  generalize plainM m op n mm imm at' = MM at *
  have ho1 : 26 ≤ op := by omega
  have ho2 : op ≤ 26 := by omega
  clear hop
  clear hV hb kV h hM hr
  go_enter Tryz.func29, Tryz.ntmps29
  go_upto_region 1 with fail
  rw [HV.out]
  clear HV
  go_upto_region 8 with fail
  refine wp_region_noPanic ?_
  refine wp_region_held_drew (S := fun w' => w'.heap[W.heap.size]? = some (.cells #[.int .i64 op, .int .i64 n, .int .i64 mm, .int .i64 imm] 71 (0, 0))) (by kernel_rfl) HK0.out (fun hHeld => ?_)
  generalize V.drew = V0 at *
  clear HK0 c0
  refine take_at 0 45 (v := ?_) rfl rfl (by kernel_rfl) (by kernel_rfl) (by kernel_rfl) (fun _ _ _ h => h) rfl ?_ hHeld ?_
  rotate_left
  · intro w hSw
    go_simp
    try with_reducible rfl
  simp only [List.setIfInBounds_toArray, List.set_cons_zero, List.set_cons_succ]
  refine take_at 1 46 (v := ?_) rfl rfl (by kernel_rfl) (by kernel_rfl) (by kernel_rfl) (fun _ _ _ h => h) rfl ?_ hHeld ?_
  rotate_left
  · intro w hSw
    go_simp
    try with_reducible rfl
  simp only [List.setIfInBounds_toArray, List.set_cons_zero, List.set_cons_succ]
  refine take_at 2 47 (v := ?_) rfl rfl (by kernel_rfl) (by kernel_rfl) (by kernel_rfl) (fun _ _ _ h => h) rfl ?_ hHeld ?_
  rotate_left
  · intro w hSw
    have y := cell_of_block (i := 1) hSw rfl
    go_simp
    try with_reducible rfl
  simp only [List.setIfInBounds_toArray, List.set_cons_zero, List.set_cons_succ]
  refine take_at 3 48 (v := ?_) rfl rfl (by kernel_rfl) (by kernel_rfl) (by kernel_rfl) (fun _ _ _ h => h) rfl ?_ hHeld ?_
  rotate_left
  · intro w hSw
    go_simp
    try with_reducible rfl
  simp only [List.setIfInBounds_toArray, List.set_cons_zero, List.set_cons_succ]
  refine take_at 4 49 (v := ?_) rfl rfl (by kernel_rfl) (by kernel_rfl) (by kernel_rfl) (fun _ _ _ h => h) rfl ?_ hHeld ?_
  rotate_left
  · intro w hSw
    go_simp
    try with_reducible rfl
  simp only [List.setIfInBounds_toArray, List.set_cons_zero, List.set_cons_succ]
  refine take_at 5 50 (v := ?_) rfl rfl (by kernel_rfl) (by kernel_rfl) (by kernel_rfl) (fun _ _ _ h => h) rfl ?_ hHeld ?_
  rotate_left
  · intro w hSw
    have y := cell_of_block (i := 2) hSw rfl
    go_simp
    try with_reducible rfl
  simp only [List.setIfInBounds_toArray, List.set_cons_zero, List.set_cons_succ]
  refine take_at 6 51 (v := ?_) rfl rfl (by kernel_rfl) (by kernel_rfl) (by kernel_rfl) (fun _ _ _ h => h) rfl ?_ hHeld ?_
  rotate_left
  · intro w hSw
    go_simp
    try with_reducible rfl
  simp only [List.setIfInBounds_toArray, List.set_cons_zero, List.set_cons_succ]
  refine take_at 7 52 (v := ?_) rfl rfl (by kernel_rfl) (by kernel_rfl) (by kernel_rfl) (fun _ _ _ h => h) rfl ?_ hHeld ?_
  rotate_left
  · intro w hSw
    go_simp
    try with_reducible rfl
  simp only [List.setIfInBounds_toArray, List.set_cons_zero, List.set_cons_succ]
  refine take_at 8 53 (v := ?_) rfl rfl (by kernel_rfl) (by kernel_rfl) (by kernel_rfl) (fun _ _ _ h => h) rfl ?_ hHeld ?_
  rotate_left
  · intro w hSw
    go_simp
    try with_reducible rfl
  simp only [List.setIfInBounds_toArray, List.set_cons_zero, List.set_cons_succ]
  refine wpAnyH_ready (rs := [9]) (by kernel_rfl) (by simp) ?_
  refine AllReadyH.cons rfl (fun K hK => ?_) AllReadyH.nil
  have xl := HM0.out.rn mm.toNat hm16
  go_simp
  refine hK.out _ _ hHeld (fun hHeld => ?_)
  clear hK K xl
  refine wpAnyH_ready (rs := [10]) (by kernel_rfl) (by simp) ?_
  refine AllReadyH.cons rfl (fun K hK => ?_) AllReadyH.nil
  go_simp
  refine (HC.out V0 HM0.out).mono ?_
  rintro e V1 ⟨rfl, hp1⟩
  have hH1 := (hp1.1.block _ (Array.getElem?_eq_some_iff.1 hHeld).1 hgne hgbne).trans hHeld
  have HP1 := Lib.hid hp1
  refine hK.out _ _ hH1 (fun hHeld => ?_)
  clear hK K hp1 hH1
  refine take_at 11 6 (v := ?_) rfl rfl (by kernel_rfl) (by kernel_rfl) (by kernel_rfl) (fun _ _ _ h => h) rfl ?_ hHeld ?_
  rotate_left
  · intro w hSw
    go_simp
    try with_reducible rfl
  simp only [List.setIfInBounds_toArray, List.set_cons_zero, List.set_cons_succ]
  refine wpAnyH_done (by kernel_rfl) ?_ _
  refine NoPanic.normal ?_
  go_wp2
  go_ret
  exact ⟨rfl, PP.after HB0.out HP1.out HW.out.kz⟩

set_option maxHeartbeats 8000000 in
set_option maxRecDepth 100000 in
theorem do_told (K g : Nat) (m : Ma) (gb bc : Nat) (s0 : Option Addr) (s1 s2 : Nat) (ta : Option Addr) (tc : Nat) (op n mm imm at' : Int) (W : World) (h : MR K g m gb bc (.slice s0 s1 s2) ta tc W) (hM : MOk m) (hr : ∀ k, in32 (m.r k)) (ha0 : 0 ≤ at') (ha1 : at' ≤ 1000000000000) (hi0 : -10000 ≤ imm) (hi1 : imm ≤ 10000) (hn0 : 0 ≤ n) (hn1 : n ≤ 15) (hm0 : 0 ≤ mm) (hm1 : mm ≤ 15) (hop : op = 27) :
    Calls Tryz.prog 29 #[.pointer (some ⟨g, 0, none⟩), .agg #[.int .i64 op, .int .i64 n, .int .i64 mm, .int .i64 imm], .int .i64 at'] W fun e W' => e = .returned (.int .i64 (plainE m op n mm imm at')) ∧ PP K K g gb bc (.slice s0 s1 s2) (plainM m op n mm imm at') W W' := by
  have hused := And.intro hM (And.intro ha0 (And.intro ha1 (And.intro hi0 (And.intro hi1 (And.intro hm0 hm1)))))
  clear hused
  obtain ⟨V, hV⟩ : ∃ V, V = W.alloc (.cells #[.int .i64 op, .int .i64 n, .int .i64 mm, .int .i64 imm] 71) := ⟨_, rfl⟩
  have hb : Below W.heap.size W V := by rw [hV]; exact oalloc _ _
  have kV : V.heap[W.heap.size]? = some (.cells #[.int .i64 op, .int .i64 n, .int .i64 mm, .int .i64 imm] 71 (0, 0)) := by rw [hV]; exact blk_new _ _ _
  have c0 := cell_of_block (i := 0) kV rfl
  have hgW : g < W.heap.size := h.lt
  have hgne : W.heap.size ≠ g := by omega
  have hn16 : n.toNat < 16 := by omega
  have hm16 : mm.toNat < 16 := by omega
  have hn2 : n < 16 := by omega
  have hm2 : mm < 16 := by omega
  obtain ⟨rn0, rn1⟩ := hr n.toNat
  obtain ⟨rm0, rm1⟩ := hr mm.toNat
  have HV := Lib.hid hV.symm
  have HK0 : Hid (V.drew.heap[W.heap.size]? = some (.cells #[.int .i64 op, .int .i64 n, .int .i64 mm, .int .i64 imm] 71 (0, 0))) := kV
  have HB0 := Lib.hid hb.drew
  have HM0 := Lib.hid (h.next hb.drew)
  have HW := Lib.hid h
  have HE : Hid (plainE m op n mm imm at' = 0) := by
    unfold Hid plainE
    rw [if_neg (by omega)]
  have HMM : Hid (plainM m op n mm imm at' = { m with told := m.told ++ [m.r 0] }) := by subst hop; rfl
  have htl := hM.tl
  have hdone : ∀ (ta' : Option Addr) (tc' : Nat) (V1 w2 : World), Below W.heap.size W V1 → Kept K g gb V1 w2 → MR K g { m with told := m.told ++ [m.r 0] } gb bc (.slice s0 s1 s2) ta' tc' w2 → PP K K g gb bc (.slice s0 s1 s2) { m with told := m.told ++ [m.r 0] } W w2 := fun _ _ _ _ h1 h2 h3 => ⟨(Kept.of h1 h.kz).trans h2, _, _, h3⟩
  have HDONE := Lib.hid hdone
  clear hdone
  have ho1 : 27 ≤ op := by omega
  have ho2 : op ≤ 27 := by omega
  clear hop
  clear hV hb kV h hM hr
  go_enter Tryz.func29, Tryz.ntmps29
  go_upto_region 1 with fail
  rw [HV.out]
  clear HV
  go_upto_region 12 with fail
  refine wp_region_noPanic ?_
  refine wp_region_held_drew (S := fun w' => w'.heap[W.heap.size]? = some (.cells #[.int .i64 op, .int .i64 n, .int .i64 mm, .int .i64 imm] 71 (0, 0))) (by kernel_rfl) HK0.out (fun hHeld => ?_)
  generalize V.drew = V0 at *
  clear HK0 c0
  refine take_at 0 76 (v := ?_) rfl rfl (by kernel_rfl) (by kernel_rfl) (by kernel_rfl) (fun _ _ _ h => h) rfl ?_ hHeld ?_
  rotate_left
  · intro w hSw
    go_simp
    try with_reducible rfl
  simp only [List.setIfInBounds_toArray, List.set_cons_zero, List.set_cons_succ]
  refine take_at 1 77 (v := ?_) rfl rfl (by kernel_rfl) (by kernel_rfl) (by kernel_rfl) (fun _ _ _ h => h) rfl ?_ hHeld ?_
  rotate_left
  · intro w hSw
    go_simp
    try with_reducible rfl
  simp only [List.setIfInBounds_toArray, List.set_cons_zero, List.set_cons_succ]
  refine take_at 2 78 (v := ?_) rfl rfl (by kernel_rfl) (by kernel_rfl) (by kernel_rfl) (fun _ _ _ h => h) rfl ?_ hHeld ?_
  rotate_left
  · intro w hSw
    go_simp
    try with_reducible rfl
  simp only [List.setIfInBounds_toArray, List.set_cons_zero, List.set_cons_succ]
  refine take_at 3 79 (v := ?_) rfl rfl (by kernel_rfl) (by kernel_rfl) (by kernel_rfl) (fun _ _ _ h => h) rfl ?_ hHeld ?_
  rotate_left
  · intro w hSw
    go_simp
    try with_reducible rfl
  simp only [List.setIfInBounds_toArray, List.set_cons_zero, List.set_cons_succ]
  refine take_at 5 81 (v := ?_) rfl rfl (by kernel_rfl) (by kernel_rfl) (by kernel_rfl) (fun _ _ _ h => h) rfl ?_ hHeld ?_
  rotate_left
  · intro w hSw
    go_simp
    try with_reducible rfl
  simp only [List.setIfInBounds_toArray, List.set_cons_zero, List.set_cons_succ]
  refine take_at 6 82 (v := ?_) rfl rfl (by kernel_rfl) (by kernel_rfl) (by kernel_rfl) (fun _ _ _ h => h) rfl ?_ hHeld ?_
  rotate_left
  · intro w hSw
    go_simp
    try with_reducible rfl
  simp only [List.setIfInBounds_toArray, List.set_cons_zero, List.set_cons_succ]
  refine take_at 7 83 (v := ?_) rfl rfl (by kernel_rfl) (by kernel_rfl) (by kernel_rfl) (fun _ _ _ h => h) rfl ?_ hHeld ?_
  rotate_left
  · intro w hSw
    go_simp
    try with_reducible rfl
  simp only [List.setIfInBounds_toArray, List.set_cons_zero, List.set_cons_succ]
  refine take_at 8 84 (v := ?_) rfl rfl (by kernel_rfl) (by kernel_rfl) (by kernel_rfl) (fun _ _ _ h => h) rfl ?_ hHeld ?_
  rotate_left
  · intro w hSw
    go_simp
    try with_reducible rfl
  simp only [List.setIfInBounds_toArray, List.set_cons_zero, List.set_cons_succ]
  refine wpAnyH_ready (rs := [4, 9]) (by kernel_rfl) (by simp) ?_
  refine AllReadyH.cons rfl (fun K hK => ?_) (AllReadyH.cons rfl (fun K hK => ?_) AllReadyH.nil)
  · have xl := HM0.out.cells.2.2.2.2.2.2.1
    go_simp
    refine hK.out _ _ hHeld (fun hHeld => ?_)
    clear hK K xl
    refine wpAnyH_ready (rs := [9]) (by kernel_rfl) (by simp) ?_
    refine AllReadyH.cons rfl (fun K hK => ?_) AllReadyH.nil
    have xl := HM0.out.rn 0 (by decide)
    go_simp
    refine hK.out _ _ hHeld (fun hHeld => ?_)
    clear hK K xl
    refine wpAnyH_ready (rs := [10]) (by kernel_rfl) (by simp) ?_
    refine AllReadyH.cons rfl (fun K hK => ?_) AllReadyH.nil
    go_simp
    generalize hWn : World.alloc V0 _ = V1
    have hb1 : Below V0.heap.size V0 V1 := by rw [← hWn]; exact oalloc _ _
    have HN : Hid (V1.heap[V0.heap.size]? = some (.cells #[.int .i64 (m.r 0)] 3 (0, 0))) := by unfold Hid; rw [← hWn]; exact blk_new V0 _ _
    have hH1 := (hb1.block _ (Array.getElem?_eq_some_iff.1 hHeld).1).trans hHeld
    have HM1 := Lib.hid (HM0.out.next hb1)
    have HB1 := Lib.hid (HB0.out.trans (hb1.mono HB0.out.size))
    refine hK.out _ _ hH1 (fun hHeld => ?_)
    clear hK K hb1 hH1 hWn
    refine wpAnyH_ready (rs := [11]) (by kernel_rfl) (by simp) ?_
    refine AllReadyH.cons rfl (fun K hK => ?_) AllReadyH.nil
    obtain ⟨ta', tc', V2, happ, hgr, x22, xf, hk2, hm2⟩ := HM1.out.app V0.heap.size (m.r 0) HN.out htl
    have HA := Lib.hid happ
    have HZ := Lib.hid (HDONE.out _ _ _ _ HB1.out hk2 hm2)
    have hH2 : V2.heap[W.heap.size]? = some (.cells #[.int .i64 op, .int .i64 n, .int .i64 mm, .int .i64 imm] 71 (0, 0)) := by
      rw [hgr.block _ (Array.getElem?_eq_some_iff.1 hHeld).1 (by
        rcases own_ne HM1.out.tt hHeld (by decide) with e | e
        · rw [e]; simp
        · exact fun e' => e e'.symm)]
      exact hHeld
    clear happ hgr hk2 hm2
    refine step_app_eq (by rfl) 87 (by rfl) _ _ _ _ (by rfl) _ _ (by rfl) (by rfl) HA.out ?_
    simp only [List.setIfInBounds_toArray, List.set_cons_zero, List.set_cons_succ]
    refine hK.out _ _ hH2 (fun hHeld => ?_)
    clear hK K HA hH2
    refine take_at 12 88 (v := ?_) rfl rfl (by kernel_rfl) (by kernel_rfl) (by kernel_rfl) (fun _ _ _ h => h) rfl ?_ hHeld ?_
    rotate_left
    · intro w hSw
      go_simp
      try with_reducible rfl
    simp only [List.setIfInBounds_toArray, List.set_cons_zero, List.set_cons_succ]
    refine take_at 13 89 (v := ?_) rfl rfl (by kernel_rfl) (by kernel_rfl) (by kernel_rfl) (fun _ _ _ h => h) rfl ?_ hHeld ?_
    rotate_left
    · intro w hSw
      go_simp
      try with_reducible rfl
    simp only [List.setIfInBounds_toArray, List.set_cons_zero, List.set_cons_succ]
    refine wpAnyH_ready (rs := [14]) (by kernel_rfl) (by simp) ?_
    refine AllReadyH.cons rfl (fun K hK => ?_) AllReadyH.nil
    go_simp
    refine hK.out _ _ (by show (World.setCell V2 ⟨g, 22, none⟩ _).heap[W.heap.size]? = _; rw [Below.heap_setCell _ _ _ _ (by exact hgne)]; exact hHeld) (fun hHeld => ?_)
    clear hK K x22 xf
    refine wpAnyH_done (by kernel_rfl) ?_ _
    refine NoPanic.normal ?_
    go_wp2
    go_ret
    refine ⟨by rw [HE.out]; rfl, ?_⟩
    rw [HMM.out]
    exact HZ.out
  · have xl := HM0.out.rn 0 (by decide)
    go_simp
    refine hK.out _ _ hHeld (fun hHeld => ?_)
    clear hK K xl
    refine wpAnyH_ready (rs := [4, 10]) (by kernel_rfl) (by simp) ?_
    refine AllReadyH.cons rfl (fun K hK => ?_) (AllReadyH.cons rfl (fun K hK => ?_) AllReadyH.nil)
    · have xl := HM0.out.cells.2.2.2.2.2.2.1
      go_simp
      refine hK.out _ _ hHeld (fun hHeld => ?_)
      clear hK K xl
      refine wpAnyH_ready (rs := [10]) (by kernel_rfl) (by simp) ?_
      refine AllReadyH.cons rfl (fun K hK => ?_) AllReadyH.nil
      go_simp
      generalize hWn : World.alloc V0 _ = V1
      have hb1 : Below V0.heap.size V0 V1 := by rw [← hWn]; exact oalloc _ _
      have HN : Hid (V1.heap[V0.heap.size]? = some (.cells #[.int .i64 (m.r 0)] 3 (0, 0))) := by unfold Hid; rw [← hWn]; exact blk_new V0 _ _
      have hH1 := (hb1.block _ (Array.getElem?_eq_some_iff.1 hHeld).1).trans hHeld
      have HM1 := Lib.hid (HM0.out.next hb1)
      have HB1 := Lib.hid (HB0.out.trans (hb1.mono HB0.out.size))
      refine hK.out _ _ hH1 (fun hHeld => ?_)
      clear hK K hb1 hH1 hWn
      refine wpAnyH_ready (rs := [11]) (by kernel_rfl) (by simp) ?_
      refine AllReadyH.cons rfl (fun K hK => ?_) AllReadyH.nil
      obtain ⟨ta', tc', V2, happ, hgr, x22, xf, hk2, hm2⟩ := HM1.out.app V0.heap.size (m.r 0) HN.out htl
      have HA := Lib.hid happ
      have HZ := Lib.hid (HDONE.out _ _ _ _ HB1.out hk2 hm2)
      have hH2 : V2.heap[W.heap.size]? = some (.cells #[.int .i64 op, .int .i64 n, .int .i64 mm, .int .i64 imm] 71 (0, 0)) := by
        rw [hgr.block _ (Array.getElem?_eq_some_iff.1 hHeld).1 (by
          rcases own_ne HM1.out.tt hHeld (by decide) with e | e
          · rw [e]; simp
          · exact fun e' => e e'.symm)]
        exact hHeld
      clear happ hgr hk2 hm2
      refine step_app_eq (by rfl) 87 (by rfl) _ _ _ _ (by rfl) _ _ (by rfl) (by rfl) HA.out ?_
      simp only [List.setIfInBounds_toArray, List.set_cons_zero, List.set_cons_succ]
      refine hK.out _ _ hH2 (fun hHeld => ?_)
      clear hK K HA hH2
      refine take_at 12 88 (v := ?_) rfl rfl (by kernel_rfl) (by kernel_rfl) (by kernel_rfl) (fun _ _ _ h => h) rfl ?_ hHeld ?_
      rotate_left
      · intro w hSw
        go_simp
        try with_reducible rfl
      simp only [List.setIfInBounds_toArray, List.set_cons_zero, List.set_cons_succ]
      refine take_at 13 89 (v := ?_) rfl rfl (by kernel_rfl) (by kernel_rfl) (by kernel_rfl) (fun _ _ _ h => h) rfl ?_ hHeld ?_
      rotate_left
      · intro w hSw
        go_simp
        try with_reducible rfl
      simp only [List.setIfInBounds_toArray, List.set_cons_zero, List.set_cons_succ]
      refine wpAnyH_ready (rs := [14]) (by kernel_rfl) (by simp) ?_
      refine AllReadyH.cons rfl (fun K hK => ?_) AllReadyH.nil
      go_simp
      refine hK.out _ _ (by show (World.setCell V2 ⟨g, 22, none⟩ _).heap[W.heap.size]? = _; rw [Below.heap_setCell _ _ _ _ (by exact hgne)]; exact hHeld) (fun hHeld => ?_)
      clear hK K x22 xf
      refine wpAnyH_done (by kernel_rfl) ?_ _
      refine NoPanic.normal ?_
      go_wp2
      go_ret
      refine ⟨by rw [HE.out]; rfl, ?_⟩
      rw [HMM.out]
      exact HZ.out
    · go_simp
      generalize hWn : World.alloc V0 _ = V1
      have hb1 : Below V0.heap.size V0 V1 := by rw [← hWn]; exact oalloc _ _
      have HN : Hid (V1.heap[V0.heap.size]? = some (.cells #[.int .i64 (m.r 0)] 3 (0, 0))) := by unfold Hid; rw [← hWn]; exact blk_new V0 _ _
      have hH1 := (hb1.block _ (Array.getElem?_eq_some_iff.1 hHeld).1).trans hHeld
      have HM1 := Lib.hid (HM0.out.next hb1)
      have HB1 := Lib.hid (HB0.out.trans (hb1.mono HB0.out.size))
      refine hK.out _ _ hH1 (fun hHeld => ?_)
      clear hK K hb1 hH1 hWn
      refine wpAnyH_ready (rs := [4]) (by kernel_rfl) (by simp) ?_
      refine AllReadyH.cons rfl (fun K hK => ?_) AllReadyH.nil
      have xl := HM1.out.cells.2.2.2.2.2.2.1
      go_simp
      refine hK.out _ _ hHeld (fun hHeld => ?_)
      clear hK K xl
      refine wpAnyH_ready (rs := [11]) (by kernel_rfl) (by simp) ?_
      refine AllReadyH.cons rfl (fun K hK => ?_) AllReadyH.nil
      obtain ⟨ta', tc', V2, happ, hgr, x22, xf, hk2, hm2⟩ := HM1.out.app V0.heap.size (m.r 0) HN.out htl
      have HA := Lib.hid happ
      have HZ := Lib.hid (HDONE.out _ _ _ _ HB1.out hk2 hm2)
      have hH2 : V2.heap[W.heap.size]? = some (.cells #[.int .i64 op, .int .i64 n, .int .i64 mm, .int .i64 imm] 71 (0, 0)) := by
        rw [hgr.block _ (Array.getElem?_eq_some_iff.1 hHeld).1 (by
          rcases own_ne HM1.out.tt hHeld (by decide) with e | e
          · rw [e]; simp
          · exact fun e' => e e'.symm)]
        exact hHeld
      clear happ hgr hk2 hm2
      refine step_app_eq (by rfl) 87 (by rfl) _ _ _ _ (by rfl) _ _ (by rfl) (by rfl) HA.out ?_
      simp only [List.setIfInBounds_toArray, List.set_cons_zero, List.set_cons_succ]
      refine hK.out _ _ hH2 (fun hHeld => ?_)
      clear hK K HA hH2
      refine take_at 12 88 (v := ?_) rfl rfl (by kernel_rfl) (by kernel_rfl) (by kernel_rfl) (fun _ _ _ h => h) rfl ?_ hHeld ?_
      rotate_left
      · intro w hSw
        go_simp
        try with_reducible rfl
      simp only [List.setIfInBounds_toArray, List.set_cons_zero, List.set_cons_succ]
      refine take_at 13 89 (v := ?_) rfl rfl (by kernel_rfl) (by kernel_rfl) (by kernel_rfl) (fun _ _ _ h => h) rfl ?_ hHeld ?_
      rotate_left
      · intro w hSw
        go_simp
        try with_reducible rfl
      simp only [List.setIfInBounds_toArray, List.set_cons_zero, List.set_cons_succ]
      refine wpAnyH_ready (rs := [14]) (by kernel_rfl) (by simp) ?_
      refine AllReadyH.cons rfl (fun K hK => ?_) AllReadyH.nil
      go_simp
      refine hK.out _ _ (by show (World.setCell V2 ⟨g, 22, none⟩ _).heap[W.heap.size]? = _; rw [Below.heap_setCell _ _ _ _ (by exact hgne)]; exact hHeld) (fun hHeld => ?_)
      clear hK K x22 xf
      refine wpAnyH_done (by kernel_rfl) ?_ _
      refine NoPanic.normal ?_
      go_wp2
      go_ret
      refine ⟨by rw [HE.out]; rfl, ?_⟩
      rw [HMM.out]
      exact HZ.out

end Go.Proofs.YtgjmbjahgcndnaaGreatDoor.Si
