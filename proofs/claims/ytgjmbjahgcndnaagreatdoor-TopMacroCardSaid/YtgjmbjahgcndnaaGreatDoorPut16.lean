/- The program's own sim: do: what looks at two registers; what moves one. The program's own sim: do: what moves one register. The program's own sim: do, of any instruction; where one leads. The program's own sim: goal, between. The program's own sim: lead. -/
import Derived.Test.YtgjmbjahgcndnaaGreatDoorPut15
namespace Go.Proofs.YtgjmbjahgcndnaaGreatDoor.Si
open Go.RowKit Isa

def moveV (op n : Int) : Int := if op = 14 then wrap32 (2 * n) else if op = 15 then n % 4294967296 / 2 else wrap32 (n - 1)
def moveT (op n : Int) : Bool := if op = 14 then decide (n < 0) else if op = 15 then (n % 2 == 1) else (wrap32 (n - 1) == 0)
theorem moved_any' (op n : Int) (w : World) (h : op = 14 ∨ op = 15 ∨ op = 16) (h0 : -2147483648 ≤ n) (h1 : n ≤ 2147483647) : Calls Tryz.prog 56 #[.int .i64 op, .int .i64 n] w fun e w' => e = .returned (.tuple #[.int .i64 (moveV op n), .bool (moveT op n)]) ∧ w = w' := by
  have := moved_any op n w h h0 h1
  rcases h with rfl | rfl | rfl
  all_goals exact this
theorem tmod_odd (n : Int) : (n.tmod 2 != 0) = (n % 2 == 1) := by
  by_cases h : n % 2 = 1
  · have e : ¬ n.tmod 2 = 0 := fun h2 => by have := Int.emod_eq_zero_of_dvd (Int.dvd_of_tmod_eq_zero h2); omega
    simp [h, e]
  · have e : n.tmod 2 = 0 := Int.tmod_eq_zero_of_dvd (Int.dvd_of_emod_eq_zero (by omega))
    simp [h, e]
theorem move_plain (m : Ma) (op n mm imm at' : Int) (h : op = 14 ∨ op = 15 ∨ op = 16) (rn0 : -2147483648 ≤ m.r n.toNat) (rn1 : m.r n.toNat ≤ 2147483647) : plainM m op n mm imm at' = { setR m n.toNat (moveV op (m.r n.toNat)) with t := moveT op (m.r n.toNat) } := by
  have e1 := a32_id (m := m) (n := n) rn0 rn1
  have e2 := tmod_odd (m.r n.toNat)
  rcases h with rfl | rfl | rfl
  all_goals
    unfold plainM moveV moveT setR
    simp [e1, e2]

end Go.Proofs.YtgjmbjahgcndnaaGreatDoor.Si

namespace Go.Proofs.YtgjmbjahgcndnaaGreatDoor.Si
open Go.RowKit Isa

set_option maxHeartbeats 8000000 in
set_option maxRecDepth 100000 in
theorem do_h14 (K g : Nat) (m : Ma) (gb bc : Nat) (s0 : Option Addr) (s1 s2 : Nat) (ta : Option Addr) (tc : Nat) (op n mm imm at' : Int) (W : World) (h : MR K g m gb bc (.slice s0 s1 s2) ta tc W) (hM : MOk m) (hr : ∀ k, in32 (m.r k)) (ha0 : 0 ≤ at') (ha1 : at' ≤ 1000000000000) (hi0 : -10000 ≤ imm) (hi1 : imm ≤ 10000) (hn0 : 0 ≤ n) (hn1 : n ≤ 15) (hm0 : 0 ≤ mm) (hm1 : mm ≤ 15) (hop : op = 14 ∨ op = 15 ∨ op = 16) (hv : op = 14) :
    Calls Tryz.prog 29 #[.pointer (some ⟨g, 0, none⟩), .agg #[.int .i64 op, .int .i64 n, .int .i64 mm, .int .i64 imm], .int .i64 at'] W fun e W' => e = .returned (.int .i64 (plainE m op n mm imm at')) ∧ PP K K g gb bc (.slice s0 s1 s2) (plainM m op n mm imm at') W W' := by
  have hused := And.intro hM (And.intro ha0 (And.intro ha1 (And.intro hi0 (And.intro hi1 (And.intro hm0 hm1)))))
  clear hused
  obtain ⟨V, hV⟩ : ∃ V, V = W.alloc (.cells #[.int .i64 op, .int .i64 n, .int .i64 mm, .int .i64 imm] 71) := ⟨_, rfl⟩
  have hb : Below W.heap.size W V := by rw [hV]; exact oalloc _ _
  have kV : V.heap[W.heap.size]? = some (.cells #[.int .i64 op, .int .i64 n, .int .i64 mm, .int .i64 imm] 71 (0, 0)) := by rw [hV]; exact blk_new _ _ _
  have c0 := cell_of_block (i := 0) kV rfl
  have hgW : g < W.heap.size := h.lt
  have hgne : W.heap.size ≠ g := by omega
  have hn16 : n.toNat < 16 := by omega
  have hm16 : mm.toNat < 16 := by omega
  have hn2 : n < 16 := by omega
  have hm2 : mm < 16 := by omega
  obtain ⟨rn0, rn1⟩ := hr n.toNat
  obtain ⟨rm0, rm1⟩ := hr mm.toNat
  have HV := Lib.hid hV.symm
  have HK0 : Hid (V.drew.heap[W.heap.size]? = some (.cells #[.int .i64 op, .int .i64 n, .int .i64 mm, .int .i64 imm] 71 (0, 0))) := kV
  have HB0 := Lib.hid hb.drew
  have HM0 := Lib.hid (h.next hb.drew)
  have HW := Lib.hid h
  have HC : Hid (∀ X, Calls Tryz.prog 56 #[.int .i64 op, .int .i64 (m.r n.toNat)] X fun e w' => e = .returned (.tuple #[.int .i64 (moveV op (m.r n.toNat)), .bool (moveT op (m.r n.toNat))]) ∧ X = w') := fun X => moved_any' op _ X hop rn0 rn1
  have HE : Hid (plainE m op n mm imm at' = 0) := by
    unfold Hid plainE
    rw [if_neg (by omega)]
  have HMM : Hid (plainM m op n mm imm at' = { setR m n.toNat (moveV op (m.r n.toNat)) with t := moveT op (m.r n.toNat) }) := move_plain m op n mm imm at' hop rn0 rn1
  have ho1 : 14 ≤ op := by omega
  have ho2 : op ≤ 14 := by omega
  clear hop hv
  clear hV hb kV h hM hr
  go_enter Tryz.func29, Tryz.ntmps29
  go_upto_region 1 with fail
  rw [HV.out]
  clear HV
  go_upto_region 20 with fail
  refine wp_region_noPanic ?_
  refine wp_region_held_drew (S := fun w' => w'.heap[W.heap.size]? = some (.cells #[.int .i64 op, .int .i64 n, .int .i64 mm, .int .i64 imm] 71 (0, 0))) (by kernel_rfl) HK0.out (fun hHeld => ?_)
  generalize V.drew = V0 at *
  clear HK0 c0
  refine take_at 0 119 (v := ?_) rfl rfl (by kernel_rfl) (by kernel_rfl) (by kernel_rfl) (fun _ _ _ h => h) rfl ?_ hHeld ?_
  rotate_left
  · intro w hSw
    go_simp
    try with_reducible rfl
  simp only [List.setIfInBounds_toArray, List.set_cons_zero, List.set_cons_succ]
  refine take_at 1 120 (v := ?_) rfl rfl (by kernel_rfl) (by kernel_rfl) (by kernel_rfl) (fun _ _ _ h => h) rfl ?_ hHeld ?_
  rotate_left
  · intro w hSw
    go_simp
    try with_reducible rfl
  simp only [List.setIfInBounds_toArray, List.set_cons_zero, List.set_cons_succ]
  refine take_at 2 121 (v := ?_) rfl rfl (by kernel_rfl) (by kernel_rfl) (by kernel_rfl) (fun _ _ _ h => h) rfl ?_ hHeld ?_
  rotate_left
  · intro w hSw
    have y := cell_of_block (i := 1) hSw rfl
    go_simp
    try with_reducible rfl
  simp only [List.setIfInBounds_toArray, List.set_cons_zero, List.set_cons_succ]
  refine take_at 3 122 (v := ?_) rfl rfl (by kernel_rfl) (by kernel_rfl) (by kernel_rfl) (fun _ _ _ h => h) rfl ?_ hHeld ?_
  rotate_left
  · intro w hSw
    go_simp
    try with_reducible rfl
  simp only [List.setIfInBounds_toArray, List.set_cons_zero, List.set_cons_succ]
  refine take_at 4 123 (v := ?_) rfl rfl (by kernel_rfl) (by kernel_rfl) (by kernel_rfl) (fun _ _ _ h => h) rfl ?_ hHeld ?_
  rotate_left
  · intro w hSw
    go_simp
    try with_reducible rfl
  simp only [List.setIfInBounds_toArray, List.set_cons_zero, List.set_cons_succ]
  refine take_at 5 124 (v := ?_) rfl rfl (by kernel_rfl) (by kernel_rfl) (by kernel_rfl) (fun _ _ _ h => h) rfl ?_ hHeld ?_
  rotate_left
  · intro w hSw
    have y := cell_of_block (i := 0) hSw rfl
    go_simp
    try with_reducible rfl
  simp only [List.setIfInBounds_toArray, List.set_cons_zero, List.set_cons_succ]
  refine take_at 6 125 (v := ?_) rfl rfl (by kernel_rfl) (by kernel_rfl) (by kernel_rfl) (fun _ _ _ h => h) rfl ?_ hHeld ?_
  rotate_left
  · intro w hSw
    go_simp
    try with_reducible rfl
  simp only [List.setIfInBounds_toArray, List.set_cons_zero, List.set_cons_succ]
  refine take_at 7 126 (v := ?_) rfl rfl (by kernel_rfl) (by kernel_rfl) (by kernel_rfl) (fun _ _ _ h => h) rfl ?_ hHeld ?_
  rotate_left
  · intro w hSw
    go_simp
    try with_reducible rfl
  simp only [List.setIfInBounds_toArray, List.set_cons_zero, List.set_cons_succ]
  refine take_at 8 127 (v := ?_) rfl rfl (by kernel_rfl) (by kernel_rfl) (by kernel_rfl) (fun _ _ _ h => h) rfl ?_ hHeld ?_
  rotate_left
  · intro w hSw
    have y := cell_of_block (i := 1) hSw rfl
    go_simp
    try with_reducible rfl
  simp only [List.setIfInBounds_toArray, List.set_cons_zero, List.set_cons_succ]
  refine take_at 9 128 (v := ?_) rfl rfl (by kernel_rfl) (by kernel_rfl) (by kernel_rfl) (fun _ _ _ h => h) rfl ?_ hHeld ?_
  rotate_left
  · intro w hSw
    go_simp
    try with_reducible rfl
  simp only [List.setIfInBounds_toArray, List.set_cons_zero, List.set_cons_succ]
  refine take_at 10 129 (v := ?_) rfl rfl (by kernel_rfl) (by kernel_rfl) (by kernel_rfl) (fun _ _ _ h => h) rfl ?_ hHeld ?_
  rotate_left
  · intro w hSw
    go_simp
    try with_reducible rfl
  simp only [List.setIfInBounds_toArray, List.set_cons_zero, List.set_cons_succ]
  refine take_at 11 130 (v := ?_) rfl rfl (by kernel_rfl) (by kernel_rfl) (by kernel_rfl) (fun _ _ _ h => h) rfl ?_ hHeld ?_
  rotate_left
  · intro w hSw
    go_simp
    try with_reducible rfl
  simp only [List.setIfInBounds_toArray, List.set_cons_zero, List.set_cons_succ]
  refine take_at 17 135 (v := ?_) rfl rfl (by kernel_rfl) (by kernel_rfl) (by kernel_rfl) (fun _ _ _ h => h) rfl ?_ hHeld ?_
  rotate_left
  · intro w hSw
    go_simp
    try with_reducible rfl
  simp only [List.setIfInBounds_toArray, List.set_cons_zero, List.set_cons_succ]
  refine take_at 18 136 (v := ?_) rfl rfl (by kernel_rfl) (by kernel_rfl) (by kernel_rfl) (fun _ _ _ h => h) rfl ?_ hHeld ?_
  rotate_left
  · intro w hSw
    go_simp
    try with_reducible rfl
  simp only [List.setIfInBounds_toArray, List.set_cons_zero, List.set_cons_succ]
  refine wpAnyH_ready (rs := [12]) (by kernel_rfl) (by simp) ?_
  refine AllReadyH.cons rfl (fun K hK => ?_) AllReadyH.nil
  have xl := HM0.out.rn n.toNat hn16
  go_simp
  refine hK.out _ _ hHeld (fun hHeld => ?_)
  clear hK K xl
  refine wpAnyH_ready (rs := [13]) (by kernel_rfl) (by simp) ?_
  refine AllReadyH.cons rfl (fun K hK => ?_) AllReadyH.nil
  go_simp
  refine (HC.out V0).mono ?_
  rintro e V1 ⟨rfl, hb1⟩
  rw [← hb1]
  refine hK.out _ _ hHeld (fun hHeld => ?_)
  clear hK K hb1
  refine take_at 14 118 (v := ?_) rfl rfl (by kernel_rfl) (by kernel_rfl) (by kernel_rfl) (fun _ _ _ h => h) rfl ?_ hHeld ?_
  rotate_left
  · intro w hSw
    go_simp
    try with_reducible rfl
  simp only [List.setIfInBounds_toArray, List.set_cons_zero, List.set_cons_succ]
  refine take_at 15 133 (v := ?_) rfl rfl (by kernel_rfl) (by kernel_rfl) (by kernel_rfl) (fun _ _ _ h => h) rfl ?_ hHeld ?_
  rotate_left
  · intro w hSw
    go_simp
    try with_reducible rfl
  simp only [List.setIfInBounds_toArray, List.set_cons_zero, List.set_cons_succ]
  refine take_at 16 134 (v := ?_) rfl rfl (by kernel_rfl) (by kernel_rfl) (by kernel_rfl) (fun _ _ _ h => h) rfl ?_ hHeld ?_
  rotate_left
  · intro w hSw
    go_simp
    try with_reducible rfl
  simp only [List.setIfInBounds_toArray, List.set_cons_zero, List.set_cons_succ]
  refine take_at 19 137 (v := ?_) rfl rfl (by kernel_rfl) (by kernel_rfl) (by kernel_rfl) (fun _ _ _ h => h) rfl ?_ hHeld ?_
  rotate_left
  · intro w hSw
    go_simp
    try with_reducible rfl
  simp only [List.setIfInBounds_toArray, List.set_cons_zero, List.set_cons_succ]
  refine wpAnyH_ready (rs := [20]) (by kernel_rfl) (by simp) ?_
  refine AllReadyH.cons rfl (fun K hK => ?_) AllReadyH.nil
  have xs := HM0.out.rn n.toNat hn16
  have xf := HM0.out.fz n.toNat
  have HM1 := Lib.hid (HM0.out.reg n.toNat hn16 (moveV op (m.r n.toNat)))
  go_simp
  refine hK.out _ _ (by show (World.setCell V0 ⟨g, n.toNat, none⟩ _).heap[W.heap.size]? = _; rw [Below.heap_setCell _ _ _ _ (by exact hgne)]; exact hHeld) (fun hHeld => ?_)
  clear hK K xs xf
  refine take_at 21 138 (v := ?_) rfl rfl (by kernel_rfl) (by kernel_rfl) (by kernel_rfl) (fun _ _ _ h => h) rfl ?_ hHeld ?_
  rotate_left
  · intro w hSw
    go_simp
    try with_reducible rfl
  simp only [List.setIfInBounds_toArray, List.set_cons_zero, List.set_cons_succ]
  refine take_at 22 139 (v := ?_) rfl rfl (by kernel_rfl) (by kernel_rfl) (by kernel_rfl) (fun _ _ _ h => h) rfl ?_ hHeld ?_
  rotate_left
  · intro w hSw
    go_simp
    try with_reducible rfl
  simp only [List.setIfInBounds_toArray, List.set_cons_zero, List.set_cons_succ]
  refine wpAnyH_ready (rs := [23]) (by kernel_rfl) (by simp) ?_
  refine AllReadyH.cons rfl (fun K hK => ?_) AllReadyH.nil
  have xs := HM1.out.cells.1
  have xf := HM1.out.fz 16
  go_simp
  refine hK.out _ _ (by show (World.setCell (V0.setCell ⟨g, n.toNat, none⟩ (.int .i64 (moveV op (m.r n.toNat)))) ⟨g, 16, none⟩ _).heap[W.heap.size]? = _; rw [Below.heap_setCell _ _ _ _ (by exact hgne)]; exact hHeld) (fun hHeld => ?_)
  clear hK K xs xf
  refine wpAnyH_done (by kernel_rfl) ?_ _
  refine NoPanic.normal ?_
  go_wp2
  go_ret
  refine ⟨by rw [HE.out]; rfl, ?_⟩
  rw [HMM.out]
  exact ((PP.of HW.out HB0.out HW.out.kz).reg n.toNat hn16 _).flag _

set_option maxHeartbeats 8000000 in
set_option maxRecDepth 100000 in
theorem do_h16 (K g : Nat) (m : Ma) (gb bc : Nat) (s0 : Option Addr) (s1 s2 : Nat) (ta : Option Addr) (tc : Nat) (op n mm imm at' : Int) (W : World) (h : MR K g m gb bc (.slice s0 s1 s2) ta tc W) (hM : MOk m) (hr : ∀ k, in32 (m.r k)) (ha0 : 0 ≤ at') (ha1 : at' ≤ 1000000000000) (hi0 : -10000 ≤ imm) (hi1 : imm ≤ 10000) (hn0 : 0 ≤ n) (hn1 : n ≤ 15) (hm0 : 0 ≤ mm) (hm1 : mm ≤ 15) (hop : op = 14 ∨ op = 15 ∨ op = 16) (hv : op = 16) :
    Calls Tryz.prog 29 #[.pointer (some ⟨g, 0, none⟩), .agg #[.int .i64 op, .int .i64 n, .int .i64 mm, .int .i64 imm], .int .i64 at'] W fun e W' => e = .returned (.int .i64 (plainE m op n mm imm at')) ∧ PP K K g gb bc (.slice s0 s1 s2) (plainM m op n mm imm at') W W' := by
  have hused := And.intro hM (And.intro ha0 (And.intro ha1 (And.intro hi0 (And.intro hi1 (And.intro hm0 hm1)))))
  clear hused
  obtain ⟨V, hV⟩ : ∃ V, V = W.alloc (.cells #[.int .i64 op, .int .i64 n, .int .i64 mm, .int .i64 imm] 71) := ⟨_, rfl⟩
  have hb : Below W.heap.size W V := by rw [hV]; exact oalloc _ _
  have kV : V.heap[W.heap.size]? = some (.cells #[.int .i64 op, .int .i64 n, .int .i64 mm, .int .i64 imm] 71 (0, 0)) := by rw [hV]; exact blk_new _ _ _
  have c0 := cell_of_block (i := 0) kV rfl
  have hgW : g < W.heap.size := h.lt
  have hgne : W.heap.size ≠ g := by omega
  have hn16 : n.toNat < 16 := by omega
  have hm16 : mm.toNat < 16 := by omega
  have hn2 : n < 16 := by omega
  have hm2 : mm < 16 := by omega
  obtain ⟨rn0, rn1⟩ := hr n.toNat
  obtain ⟨rm0, rm1⟩ := hr mm.toNat
  have HV := Lib.hid hV.symm
  have HK0 : Hid (V.drew.heap[W.heap.size]? = some (.cells #[.int .i64 op, .int .i64 n, .int .i64 mm, .int .i64 imm] 71 (0, 0))) := kV
  have HB0 := Lib.hid hb.drew
  have HM0 := Lib.hid (h.next hb.drew)
  have HW := Lib.hid h
  have HC : Hid (∀ X, Calls Tryz.prog 56 #[.int .i64 op, .int .i64 (m.r n.toNat)] X fun e w' => e = .returned (.tuple #[.int .i64 (moveV op (m.r n.toNat)), .bool (moveT op (m.r n.toNat))]) ∧ X = w') := fun X => moved_any' op _ X hop rn0 rn1
  have HE : Hid (plainE m op n mm imm at' = 0) := by
    unfold Hid plainE
    rw [if_neg (by omega)]
  have HMM : Hid (plainM m op n mm imm at' = { setR m n.toNat (moveV op (m.r n.toNat)) with t := moveT op (m.r n.toNat) }) := move_plain m op n mm imm at' hop rn0 rn1
  have ho1 : 16 ≤ op := by omega
  have ho2 : op ≤ 16 := by omega
  clear hop hv
  clear hV hb kV h hM hr
  go_enter Tryz.func29, Tryz.ntmps29
  go_upto_region 1 with fail
  rw [HV.out]
  clear HV
  go_upto_region 20 with fail
  refine wp_region_noPanic ?_
  refine wp_region_held_drew (S := fun w' => w'.heap[W.heap.size]? = some (.cells #[.int .i64 op, .int .i64 n, .int .i64 mm, .int .i64 imm] 71 (0, 0))) (by kernel_rfl) HK0.out (fun hHeld => ?_)
  generalize V.drew = V0 at *
  clear HK0 c0
  refine take_at 0 119 (v := ?_) rfl rfl (by kernel_rfl) (by kernel_rfl) (by kernel_rfl) (fun _ _ _ h => h) rfl ?_ hHeld ?_
  rotate_left
  · intro w hSw
    go_simp
    try with_reducible rfl
  simp only [List.setIfInBounds_toArray, List.set_cons_zero, List.set_cons_succ]
  refine take_at 1 120 (v := ?_) rfl rfl (by kernel_rfl) (by kernel_rfl) (by kernel_rfl) (fun _ _ _ h => h) rfl ?_ hHeld ?_
  rotate_left
  · intro w hSw
    go_simp
    try with_reducible rfl
  simp only [List.setIfInBounds_toArray, List.set_cons_zero, List.set_cons_succ]
  refine take_at 2 121 (v := ?_) rfl rfl (by kernel_rfl) (by kernel_rfl) (by kernel_rfl) (fun _ _ _ h => h) rfl ?_ hHeld ?_
  rotate_left
  · intro w hSw
    have y := cell_of_block (i := 1) hSw rfl
    go_simp
    try with_reducible rfl
  simp only [List.setIfInBounds_toArray, List.set_cons_zero, List.set_cons_succ]
  refine take_at 3 122 (v := ?_) rfl rfl (by kernel_rfl) (by kernel_rfl) (by kernel_rfl) (fun _ _ _ h => h) rfl ?_ hHeld ?_
  rotate_left
  · intro w hSw
    go_simp
    try with_reducible rfl
  simp only [List.setIfInBounds_toArray, List.set_cons_zero, List.set_cons_succ]
  refine take_at 4 123 (v := ?_) rfl rfl (by kernel_rfl) (by kernel_rfl) (by kernel_rfl) (fun _ _ _ h => h) rfl ?_ hHeld ?_
  rotate_left
  · intro w hSw
    go_simp
    try with_reducible rfl
  simp only [List.setIfInBounds_toArray, List.set_cons_zero, List.set_cons_succ]
  refine take_at 5 124 (v := ?_) rfl rfl (by kernel_rfl) (by kernel_rfl) (by kernel_rfl) (fun _ _ _ h => h) rfl ?_ hHeld ?_
  rotate_left
  · intro w hSw
    have y := cell_of_block (i := 0) hSw rfl
    go_simp
    try with_reducible rfl
  simp only [List.setIfInBounds_toArray, List.set_cons_zero, List.set_cons_succ]
  refine take_at 6 125 (v := ?_) rfl rfl (by kernel_rfl) (by kernel_rfl) (by kernel_rfl) (fun _ _ _ h => h) rfl ?_ hHeld ?_
  rotate_left
  · intro w hSw
    go_simp
    try with_reducible rfl
  simp only [List.setIfInBounds_toArray, List.set_cons_zero, List.set_cons_succ]
  refine take_at 7 126 (v := ?_) rfl rfl (by kernel_rfl) (by kernel_rfl) (by kernel_rfl) (fun _ _ _ h => h) rfl ?_ hHeld ?_
  rotate_left
  · intro w hSw
    go_simp
    try with_reducible rfl
  simp only [List.setIfInBounds_toArray, List.set_cons_zero, List.set_cons_succ]
  refine take_at 8 127 (v := ?_) rfl rfl (by kernel_rfl) (by kernel_rfl) (by kernel_rfl) (fun _ _ _ h => h) rfl ?_ hHeld ?_
  rotate_left
  · intro w hSw
    have y := cell_of_block (i := 1) hSw rfl
    go_simp
    try with_reducible rfl
  simp only [List.setIfInBounds_toArray, List.set_cons_zero, List.set_cons_succ]
  refine take_at 9 128 (v := ?_) rfl rfl (by kernel_rfl) (by kernel_rfl) (by kernel_rfl) (fun _ _ _ h => h) rfl ?_ hHeld ?_
  rotate_left
  · intro w hSw
    go_simp
    try with_reducible rfl
  simp only [List.setIfInBounds_toArray, List.set_cons_zero, List.set_cons_succ]
  refine take_at 10 129 (v := ?_) rfl rfl (by kernel_rfl) (by kernel_rfl) (by kernel_rfl) (fun _ _ _ h => h) rfl ?_ hHeld ?_
  rotate_left
  · intro w hSw
    go_simp
    try with_reducible rfl
  simp only [List.setIfInBounds_toArray, List.set_cons_zero, List.set_cons_succ]
  refine take_at 11 130 (v := ?_) rfl rfl (by kernel_rfl) (by kernel_rfl) (by kernel_rfl) (fun _ _ _ h => h) rfl ?_ hHeld ?_
  rotate_left
  · intro w hSw
    go_simp
    try with_reducible rfl
  simp only [List.setIfInBounds_toArray, List.set_cons_zero, List.set_cons_succ]
  refine take_at 17 135 (v := ?_) rfl rfl (by kernel_rfl) (by kernel_rfl) (by kernel_rfl) (fun _ _ _ h => h) rfl ?_ hHeld ?_
  rotate_left
  · intro w hSw
    go_simp
    try with_reducible rfl
  simp only [List.setIfInBounds_toArray, List.set_cons_zero, List.set_cons_succ]
  refine take_at 18 136 (v := ?_) rfl rfl (by kernel_rfl) (by kernel_rfl) (by kernel_rfl) (fun _ _ _ h => h) rfl ?_ hHeld ?_
  rotate_left
  · intro w hSw
    go_simp
    try with_reducible rfl
  simp only [List.setIfInBounds_toArray, List.set_cons_zero, List.set_cons_succ]
  refine wpAnyH_ready (rs := [12]) (by kernel_rfl) (by simp) ?_
  refine AllReadyH.cons rfl (fun K hK => ?_) AllReadyH.nil
  have xl := HM0.out.rn n.toNat hn16
  go_simp
  refine hK.out _ _ hHeld (fun hHeld => ?_)
  clear hK K xl
  refine wpAnyH_ready (rs := [13]) (by kernel_rfl) (by simp) ?_
  refine AllReadyH.cons rfl (fun K hK => ?_) AllReadyH.nil
  go_simp
  refine (HC.out V0).mono ?_
  rintro e V1 ⟨rfl, hb1⟩
  rw [← hb1]
  refine hK.out _ _ hHeld (fun hHeld => ?_)
  clear hK K hb1
  refine take_at 14 118 (v := ?_) rfl rfl (by kernel_rfl) (by kernel_rfl) (by kernel_rfl) (fun _ _ _ h => h) rfl ?_ hHeld ?_
  rotate_left
  · intro w hSw
    go_simp
    try with_reducible rfl
  simp only [List.setIfInBounds_toArray, List.set_cons_zero, List.set_cons_succ]
  refine take_at 15 133 (v := ?_) rfl rfl (by kernel_rfl) (by kernel_rfl) (by kernel_rfl) (fun _ _ _ h => h) rfl ?_ hHeld ?_
  rotate_left
  · intro w hSw
    go_simp
    try with_reducible rfl
  simp only [List.setIfInBounds_toArray, List.set_cons_zero, List.set_cons_succ]
  refine take_at 16 134 (v := ?_) rfl rfl (by kernel_rfl) (by kernel_rfl) (by kernel_rfl) (fun _ _ _ h => h) rfl ?_ hHeld ?_
  rotate_left
  · intro w hSw
    go_simp
    try with_reducible rfl
  simp only [List.setIfInBounds_toArray, List.set_cons_zero, List.set_cons_succ]
  refine take_at 19 137 (v := ?_) rfl rfl (by kernel_rfl) (by kernel_rfl) (by kernel_rfl) (fun _ _ _ h => h) rfl ?_ hHeld ?_
  rotate_left
  · intro w hSw
    go_simp
    try with_reducible rfl
  simp only [List.setIfInBounds_toArray, List.set_cons_zero, List.set_cons_succ]
  refine wpAnyH_ready (rs := [20]) (by kernel_rfl) (by simp) ?_
  refine AllReadyH.cons rfl (fun K hK => ?_) AllReadyH.nil
  have xs := HM0.out.rn n.toNat hn16
  have xf := HM0.out.fz n.toNat
  have HM1 := Lib.hid (HM0.out.reg n.toNat hn16 (moveV op (m.r n.toNat)))
  go_simp
  refine hK.out _ _ (by show (World.setCell V0 ⟨g, n.toNat, none⟩ _).heap[W.heap.size]? = _; rw [Below.heap_setCell _ _ _ _ (by exact hgne)]; exact hHeld) (fun hHeld => ?_)
  clear hK K xs xf
  refine take_at 21 138 (v := ?_) rfl rfl (by kernel_rfl) (by kernel_rfl) (by kernel_rfl) (fun _ _ _ h => h) rfl ?_ hHeld ?_
  rotate_left
  · intro w hSw
    go_simp
    try with_reducible rfl
  simp only [List.setIfInBounds_toArray, List.set_cons_zero, List.set_cons_succ]
  refine take_at 22 139 (v := ?_) rfl rfl (by kernel_rfl) (by kernel_rfl) (by kernel_rfl) (fun _ _ _ h => h) rfl ?_ hHeld ?_
  rotate_left
  · intro w hSw
    go_simp
    try with_reducible rfl
  simp only [List.setIfInBounds_toArray, List.set_cons_zero, List.set_cons_succ]
  refine wpAnyH_ready (rs := [23]) (by kernel_rfl) (by simp) ?_
  refine AllReadyH.cons rfl (fun K hK => ?_) AllReadyH.nil
  have xs := HM1.out.cells.1
  have xf := HM1.out.fz 16
  go_simp
  refine hK.out _ _ (by show (World.setCell (V0.setCell ⟨g, n.toNat, none⟩ (.int .i64 (moveV op (m.r n.toNat)))) ⟨g, 16, none⟩ _).heap[W.heap.size]? = _; rw [Below.heap_setCell _ _ _ _ (by exact hgne)]; exact hHeld) (fun hHeld => ?_)
  clear hK K xs xf
  refine wpAnyH_done (by kernel_rfl) ?_ _
  refine NoPanic.normal ?_
  go_wp2
  go_ret
  refine ⟨by rw [HE.out]; rfl, ?_⟩
  rw [HMM.out]
  exact ((PP.of HW.out HB0.out HW.out.kz).reg n.toNat hn16 _).flag _

end Go.Proofs.YtgjmbjahgcndnaaGreatDoor.Si

namespace Go.Proofs.YtgjmbjahgcndnaaGreatDoor.Si
open Go.RowKit Isa

theorem load_plain (m : Ma) (op n mm imm at' size : Int) (h : (op = 23 ∧ size = 2) ∨ (op = 24 ∧ size = 4)) : plainE m op n mm imm at' = (if hasB m (toI op imm at') size = false then 3 else 0) ∧ plainM m op n mm imm at' = (if hasB m (toI op imm at') size = false then m else setR m n.toNat (loadS m (toI op imm at') size)) := by
  rcases h with ⟨rfl, rfl⟩ | ⟨rfl, rfl⟩
  · constructor
    · unfold plainE memAt memSz
      simp
    · unfold plainM memAt memSz
      simp
  · constructor
    · unfold plainE memAt memSz
      simp
    · unfold plainM memAt memSz
      simp

set_option maxRecDepth 100000 in
set_option maxHeartbeats 4000000 in
theorem do_load (K g : Nat) (m : Ma) (gb bc : Nat) (s0 : Option Addr) (s1 s2 : Nat) (ta : Option Addr) (tc : Nat) (op n mm imm at' : Int) (W : World) (h : MR K g m gb bc (.slice s0 s1 s2) ta tc W) (hM : MOk m) (ha0 : 0 ≤ at') (ha1 : at' ≤ 1000000000000) (hi0 : -10000 ≤ imm) (hi1 : imm ≤ 10000) (hn0 : 0 ≤ n) (hn1 : n ≤ 15) (hop : op = 23 ∨ op = 24) :
    Calls Tryz.prog 29 #[.pointer (some ⟨g, 0, none⟩), .agg #[.int .i64 op, .int .i64 n, .int .i64 mm, .int .i64 imm], .int .i64 at'] W fun e W' => e = .returned (.int .i64 (plainE m op n mm imm at')) ∧ PP K K g gb bc (.slice s0 s1 s2) (plainM m op n mm imm at') W W' := by
  obtain ⟨V, hV⟩ : ∃ V, V = W.alloc (.cells #[.int .i64 op, .int .i64 n, .int .i64 mm, .int .i64 imm] 71) := ⟨_, rfl⟩
  have hb : Below W.heap.size W V := by rw [hV]; exact oalloc _ _
  have kV : V.heap[W.heap.size]? = some (.cells #[.int .i64 op, .int .i64 n, .int .i64 mm, .int .i64 imm] 71 (0, 0)) := by rw [hV]; exact blk_new _ _ _
  have c0 := cell_of_block (i := 0) kV rfl
  have c1 := cell_of_block (i := 1) kV rfl
  have c2 := cell_of_block (i := 2) kV rfl
  have c3 := cell_of_block (i := 3) kV rfl
  have HV := Lib.hid hV.symm
  rcases hop with hop | hop
  · have HC : Hid (Calls Tryz.prog 52 #[.pointer (some ⟨g, 0, none⟩), .agg #[.int .i64 op, .int .i64 n, .int .i64 mm, .int .i64 imm], .int .i64 at', .int .i64 2] V fun e W' => e = .returned (.int .i64 (plainE m op n mm imm at')) ∧ PP K K g gb bc (.slice s0 s1 s2) (plainM m op n mm imm at') W W') := by
      rw [(load_plain m op n mm imm at' 2 (Or.inl ⟨hop, rfl⟩)).1, (load_plain m op n mm imm at' 2 (Or.inl ⟨hop, rfl⟩)).2]
      exact (load_any K g m gb bc s0 s1 s2 ta tc op n mm imm at' 2 V (h.next hb) (Or.inl rfl) hM ha0 ha1 hi0 hi1 hn0 hn1).mono fun _ _ ⟨h1, h2⟩ => ⟨h1, PP.after hb h2 h.kz⟩
    have ho1 : 23 ≤ op := by omega
    have ho2 : op ≤ 23 := by omega
    clear hV hb kV h hM hop
    generalize plainE m op n mm imm at' = EE at *
    generalize plainM m op n mm imm at' = MM at *
    go_enter Tryz.func29, Tryz.ntmps29
    go_upto_region 1 with fail
    rw [HV.out]
    clear HV
    go_wp2_with (first | (go_at_call 52; refine HC.out.mono ?_; rintro e W2 ⟨rfl, hp2⟩; have HP2 := Lib.hid hp2; clear hp2) | fail)
    go_ret
    exact ⟨rfl, HP2.out⟩
  · have HC : Hid (Calls Tryz.prog 52 #[.pointer (some ⟨g, 0, none⟩), .agg #[.int .i64 op, .int .i64 n, .int .i64 mm, .int .i64 imm], .int .i64 at', .int .i64 4] V fun e W' => e = .returned (.int .i64 (plainE m op n mm imm at')) ∧ PP K K g gb bc (.slice s0 s1 s2) (plainM m op n mm imm at') W W') := by
      rw [(load_plain m op n mm imm at' 4 (Or.inr ⟨hop, rfl⟩)).1, (load_plain m op n mm imm at' 4 (Or.inr ⟨hop, rfl⟩)).2]
      exact (load_any K g m gb bc s0 s1 s2 ta tc op n mm imm at' 4 V (h.next hb) (Or.inr rfl) hM ha0 ha1 hi0 hi1 hn0 hn1).mono fun _ _ ⟨h1, h2⟩ => ⟨h1, PP.after hb h2 h.kz⟩
    have ho1 : 24 ≤ op := by omega
    have ho2 : op ≤ 24 := by omega
    clear hV hb kV h hM hop
    generalize plainE m op n mm imm at' = EE at *
    generalize plainM m op n mm imm at' = MM at *
    go_enter Tryz.func29, Tryz.ntmps29
    go_upto_region 1 with fail
    rw [HV.out]
    clear HV
    go_wp2_with (first | (go_at_call 52; refine HC.out.mono ?_; rintro e W2 ⟨rfl, hp2⟩; have HP2 := Lib.hid hp2; clear hp2) | fail)
    go_ret
    exact ⟨rfl, HP2.out⟩

/-- Which instructions are asked for. -/
def Res (op : Int) : Prop := op ≤ 10 ∨ op = 16 ∨ op = 24 ∨ op = 26 ∨ op = 27
theorem do_any (K g : Nat) (m : Ma) (gb bc : Nat) (s0 : Option Addr) (s1 s2 : Nat) (ta : Option Addr) (tc : Nat) (op n mm imm at' : Int) (W : World) (h : MR K g m gb bc (.slice s0 s1 s2) ta tc W) (hM : MOk m) (hr : ∀ k, in32 (m.r k)) (_hbc : m.by'.length ≤ bc) (ha0 : 0 ≤ at') (ha1 : at' ≤ 1000000000000) (hi0 : -10000 ≤ imm) (hi1 : imm ≤ 10000) (hn0 : 0 ≤ n) (hn1 : n ≤ 15) (hm0 : 0 ≤ mm) (hm1 : mm ≤ 15) (ho : op = 1 ∨ (3 ≤ op ∧ op ≤ 16) ∨ (23 ≤ op ∧ op ≤ 27)) (hres : Res op) :
    Calls Tryz.prog 29 #[.pointer (some ⟨g, 0, none⟩), .agg #[.int .i64 op, .int .i64 n, .int .i64 mm, .int .i64 imm], .int .i64 at'] W fun e W' => e = .returned (.int .i64 (plainE m op n mm imm at')) ∧ PP K K g gb bc (.slice s0 s1 s2) (plainM m op n mm imm at') W W' := by
  by_cases h1 : op ≤ 10
  · exact do_made K g m gb bc s0 s1 s2 ta tc op n mm imm at' W h hM hr ha0 ha1 hi0 hi1 hn0 hn1 hm0 hm1 (by omega)
  · obtain e | e | e | e : op = 16 ∨ (op = 23 ∨ op = 24) ∨ op = 26 ∨ op = 27 := by unfold Res at hres; omega
    · exact do_h16 K g m gb bc s0 s1 s2 ta tc op n mm imm at' W h hM hr ha0 ha1 hi0 hi1 hn0 hn1 hm0 hm1 (by omega) e
    · exact do_load K g m gb bc s0 s1 s2 ta tc op n mm imm at' W h hM ha0 ha1 hi0 hi1 hn0 hn1 e
    · exact do_get K g m gb bc s0 s1 s2 ta tc op n mm imm at' W h hM hr ha0 ha1 hi0 hi1 hn0 hn1 hm0 hm1 e
    · exact do_told K g m gb bc s0 s1 s2 ta tc op n mm imm at' W h hM hr ha0 ha1 hi0 hi1 hn0 hn1 hm0 hm1 e

end Go.Proofs.YtgjmbjahgcndnaaGreatDoor.Si

namespace Go.Proofs.YtgjmbjahgcndnaaGreatDoor.Si
open Go.RowKit Isa

/-- Where an instruction leads that a machine stands at. -/
def goalV (m : Ma) (op n imm : Int) : Int := if op = 2 then m.pr else if op = 21 ∨ op = 22 then m.r n.toNat else toI op imm m.pc

set_option maxRecDepth 100000 in
set_option maxHeartbeats 4000000 in
theorem goal_any (K g : Nat) (m : Ma) (gb bc : Nat) (sv : Value) (ta : Option Addr) (tc : Nat) (op n mm imm : Int) (W : World) (h : MR K g m gb bc sv ta tc W) (hp0 : 0 ≤ m.pc) (hp1 : m.pc ≤ 2097152) (hi0 : -10000 ≤ imm) (hi1 : imm ≤ 10000) (hn0 : 0 ≤ n) (hn1 : n ≤ 15) (hop : op = 2 ∨ (17 ≤ op ∧ op ≤ 22)) :
    Calls Tryz.prog 50 #[.pointer (some ⟨g, 0, none⟩), .agg #[.int .i64 op, .int .i64 n, .int .i64 mm, .int .i64 imm]] W fun e W' => e = .returned (.int .i64 (goalV m op n imm)) ∧ Below W.heap.size W W' := by
  obtain ⟨V, hV⟩ : ∃ V, V = W.alloc (.cells #[.int .i64 op, .int .i64 n, .int .i64 mm, .int .i64 imm] 71) := ⟨_, rfl⟩
  have hb : Below W.heap.size W V := by rw [hV]; exact oalloc _ _
  have kV : V.heap[W.heap.size]? = some (.cells #[.int .i64 op, .int .i64 n, .int .i64 mm, .int .i64 imm] 71 (0, 0)) := by rw [hV]; exact blk_new _ _ _
  have c0 := cell_of_block (i := 0) kV rfl
  have c1 := cell_of_block (i := 1) kV rfl
  have c2 := cell_of_block (i := 2) kV rfl
  have c3 := cell_of_block (i := 3) kV rfl
  have hMV := h.next hb
  obtain ⟨_, e17, e18, _⟩ := hMV.cells
  have er := hMV.rn n.toNat (by omega)
  have hn2 : n < 16 := by omega
  have HV := Lib.hid hV.symm
  have HB := Lib.hid hb
  have HBq : Hid (∀ nq, Below W.heap.size W (V.drewN nq)) := fun nq => hb.trans (Go.Joins.below_draws _ V nq)
  have hto := toI_near op imm m.pc hp0 hi0 hi1
  have hT := to_any op n mm imm m.pc
  have HT : Hid (∀ X, Below V.heap.size V X → Calls Tryz.prog 82 #[.agg #[.int .i64 op, .int .i64 n, .int .i64 mm, .int .i64 imm], .int .i64 m.pc] X fun e w' => e = .returned (.tuple #[.int .i64 (toI op imm m.pc), .bool (toB op)]) ∧ Below X.heap.size X w') := fun X hX => hT X (hMV.next hX).la hp0 (by omega) hi0 hi1
  have HKV : Hid (∀ X, Below V.heap.size V X → X.cell? ⟨W.heap.size, 0, none⟩ = some (.int .i64 op) ∧ X.cell? ⟨W.heap.size, 1, none⟩ = some (.int .i64 n) ∧ X.cell? ⟨W.heap.size, 2, none⟩ = some (.int .i64 mm) ∧ X.cell? ⟨W.heap.size, 3, none⟩ = some (.int .i64 imm) ∧ X.cell? ⟨g, 17, none⟩ = some (.int .i64 m.pc) ∧ Below V.heap.size V X) := fun X hX => by
    have k := (hX.block _ (Array.getElem?_eq_some_iff.1 kV).1).trans kV
    exact ⟨cell_of_block (i := 0) k rfl, cell_of_block (i := 1) k rfl, cell_of_block (i := 2) k rfl, cell_of_block (i := 3) k rfl, (hMV.next hX).cells.2.1, hX⟩
  have HS : Hid (∀ X, Calls Tryz.prog 58 #[.int .i64 (toI op imm m.pc)] X fun e w' => e = .returned (.int .i64 (toI op imm m.pc)) ∧ X = w') := fun X => by
    have := sgn_any (toI op imm m.pc) X
    rw [w32_id (by omega) (by omega)] at this
    exact this
  by_cases h1 : op = 2
  · have HE : Hid (goalV m op n imm = m.pr) := by unfold Hid goalV; rw [if_pos h1]
    have ho1 : 2 ≤ op := by omega
    have ho2 : op ≤ 2 := by omega
    clear hV hb kV h hMV hT hop h1
    go_enter Tryz.func50, Tryz.ntmps50
    go_upto_region 1 with fail
    rw [HV.out]
    go_wp2
    go_ret
    exact ⟨by rw [HE.out]; rfl, HB.out⟩
  · by_cases h2 : op = 21 ∨ op = 22
    · have HE : Hid (goalV m op n imm = m.r n.toNat) := by unfold Hid goalV; rw [if_neg h1, if_pos h2]
      have ho1 : 21 ≤ op := by omega
      have ho2 : op ≤ 22 := by omega
      clear hV hb kV h hMV hT hop h1
      go_enter Tryz.func50, Tryz.ntmps50
      go_upto_region 1 with fail
      rw [HV.out]
      go_wp2_with fail
      all_goals
        go_quiet (fail)
        go_wp2
        go_ret
        exact ⟨by rw [HE.out]; rfl, HBq.out _⟩
    · have HE : Hid (goalV m op n imm = toI op imm m.pc) := by unfold Hid goalV; rw [if_neg h1, if_neg h2]
      have ho1 : 17 ≤ op := by omega
      have ho2 : op ≤ 20 := by omega
      clear hV hb kV h hMV hT hop h1 h2
      generalize toI op imm m.pc = to' at *
      generalize toB op = tb at *
      go_enter Tryz.func50, Tryz.ntmps50
      go_upto_region 1 with fail
      rw [HV.out]
      go_wp2_with fail
      go_region_held3 (fun w' => w'.cell? ⟨W.heap.size, 0, none⟩ = some (.int .i64 op) ∧ w'.cell? ⟨W.heap.size, 1, none⟩ = some (.int .i64 n) ∧ w'.cell? ⟨W.heap.size, 2, none⟩ = some (.int .i64 mm) ∧ w'.cell? ⟨W.heap.size, 3, none⟩ = some (.int .i64 imm) ∧ w'.cell? ⟨g, 17, none⟩ = some (.int .i64 m.pc) ∧ Below V.heap.size V w')
        (first | assumption | exact HKV.out _ (Below.refl _ _).drew | exact HKV.out _ HX1.out | exact HKV.out _ HX1.out.drew)
        (first | (go_at_call 82; refine (HT.out _ (Below.refl _ _).drew).mono ?_; rintro e X1 ⟨rfl, hb1⟩; have HX1 : Hid (Below V.heap.size V X1) := Lib.hid ((Below.refl V.heap.size V).drew.trans (hb1.mono (by simp))); clear hb1))
      go_wp2_with (first | (go_at_call 58; refine (HS.out _).mono ?_; rintro e w' ⟨rfl, rfl⟩) | fail)
      go_ret
      exact ⟨by rw [HE.out]; rfl, HB.out.trans (HX1.out.mono HB.out.size)⟩

/-- What comes of the instruction behind one that leads elsewhere: the error, the machine. -/
def betE (m : Ma) (a : Int) : Int := if fetchE m a ≠ 0 then fetchE m a else if leadsB (fV m a 0) = true ∨ fV m a 0 = 27 then 8 else plainE m (fV m a 0) (fV m a 1) (fV m a 2) (fV m a 3) a
def betM (m : Ma) (a : Int) : Ma := plainM m (fV m a 0) (fV m a 1) (fV m a 2) (fV m a 3) a

set_option maxRecDepth 100000 in
set_option maxHeartbeats 4000000 in
theorem between_any (K g : Nat) (m : Ma) (gb bc : Nat) (s0 : Option Addr) (s1 s2 : Nat) (ta : Option Addr) (tc : Nat) (a : Int) (W : World) (h : MR K g m gb bc (.slice s0 s1 s2) ta tc W) (hM : MOk m) (hr : ∀ k, in32 (m.r k)) (hbc : m.by'.length ≤ bc) (ha0 : 0 ≤ a) (ha1 : a ≤ 1000000000) (hres : Res (fV m a 0)) :
    Calls Tryz.prog 51 #[.pointer (some ⟨g, 0, none⟩), .int .i64 a] W fun e W' => e = .returned (.int .i64 (betE m a)) ∧ Kept K g gb W W' ∧ (betE m a = 0 → ∃ ta' tc', MR K g (betM m a) gb bc (.slice s0 s1 s2) ta' tc' W') := by
  obtain ⟨_, _, _, c19, c20, c21, _, _⟩ := h.cells
  have HI := Lib.hid (instr_any m (some ⟨gb, 0, none⟩) bc (.slice s0 s1 s2) a W h.brd h.la hM.b0 hM.b1 (by have := hM.bl; omega) (by omega) (by omega))
  obtain ⟨b1, b2, b3, b4, b5, b6⟩ := fV_bd m a
  have hDo : ∀ X, Below W.heap.size W X → (fV m a 0 = 1 ∨ (3 ≤ fV m a 0 ∧ fV m a 0 ≤ 16) ∨ (23 ≤ fV m a 0 ∧ fV m a 0 ≤ 27)) → Calls Tryz.prog 29 #[.pointer (some ⟨g, 0, none⟩), .agg #[.int .i64 (fV m a 0), .int .i64 (fV m a 1), .int .i64 (fV m a 2), .int .i64 (fV m a 3)], .int .i64 a] X fun e W' => e = .returned (.int .i64 (plainE m (fV m a 0) (fV m a 1) (fV m a 2) (fV m a 3) a)) ∧ PP K K g gb bc (.slice s0 s1 s2) (betM m a) W W' := fun X hX ho =>
    (do_any K g m gb bc s0 s1 s2 ta tc _ _ _ _ a X (h.next hX) hM hr hbc ha0 (by omega) b5 b6 b1 b2 b3 b4 ho hres).mono fun _ _ ⟨h1, h2⟩ => ⟨h1, (h.kn hX).trans h2.1, h2.2⟩
  clear hres
  have HKN : Hid (∀ X, Below W.heap.size W X → Kept K g gb W X) := fun X hX => h.kn hX
  have HLE := Lib.hid oleads_any
  by_cases he : fetchE m a = 0
  · have hIn := fetch_in hM.b0 he
    by_cases hl : leadsB (fV m a 0) = true
    · have HE : Hid (betE m a = 8) := by unfold Hid betE; rw [if_neg (by simp [he]), if_pos (Or.inl hl)]
      rw [he] at HI
      have HL : Hid (∀ X, Calls Tryz.prog 27 #[.int .i64 (fV m a 0)] X fun e w' => e = .returned (.bool true) ∧ X = w') := fun X => by
        have := HLE.out (fV m a 0) X
        rw [hl] at this
        exact this
      clear h hM hr hDo HLE hl he
      generalize betE m a = EE at *
      generalize fV m a 0 = d0 at *
      generalize fV m a 1 = d1 at *
      generalize fV m a 2 = d2 at *
      generalize fV m a 3 = d3 at *
      go_enter Tryz.func51, Tryz.ntmps51
      go_wp2_with (first | (go_at_call 26; refine HI.out.mono ?_; rintro e W1 ⟨rfl, hb1⟩; have HB1 := Lib.hid (hb1.trans ((oalloc W1 (.cells #[.int .i64 d0, .int .i64 d1, .int .i64 d2, .int .i64 d3] 71)).mono hb1.size)); clear hb1) | (go_at_call 27; refine (HL.out _).mono ?_; rintro e w' ⟨rfl, rfl⟩) | fail)
      go_ret
      exact ⟨by rw [HE.out]; rfl, HKN.out _ HB1.out, fun h0 => absurd (HE.out.symm.trans h0) (by decide)⟩
    · have hl' : leadsB (fV m a 0) = false := by simpa using hl
      have HL : Hid (∀ X, Calls Tryz.prog 27 #[.int .i64 (fV m a 0)] X fun e w' => e = .returned (.bool false) ∧ X = w') := fun X => by
        have := HLE.out (fV m a 0) X
        rw [hl'] at this
        exact this
      by_cases h27 : fV m a 0 = 27
      · have HE : Hid (betE m a = 8) := by unfold Hid betE; rw [if_neg (by simp [he]), if_pos (Or.inr h27)]
        rw [he] at HI
        have ho1 : 27 ≤ fV m a 0 := by omega
        have ho2 : fV m a 0 ≤ 27 := by omega
        clear h hM hr hDo HLE hl he hl' h27 hIn
        generalize betE m a = EE at *
        generalize fV m a 0 = d0 at *
        generalize fV m a 1 = d1 at *
        generalize fV m a 2 = d2 at *
        generalize fV m a 3 = d3 at *
        go_enter Tryz.func51, Tryz.ntmps51
        go_wp2_with (first | (go_at_call 26; refine HI.out.mono ?_; rintro e W1 ⟨rfl, hb1⟩; have HB1 := Lib.hid (hb1.trans ((oalloc W1 (.cells #[.int .i64 d0, .int .i64 d1, .int .i64 d2, .int .i64 d3] 71)).mono hb1.size)); clear hb1) | (go_at_call 27; refine (HL.out _).mono ?_; rintro e w' ⟨rfl, rfl⟩) | fail)
        go_ret
        exact ⟨by rw [HE.out]; rfl, HKN.out _ HB1.out, fun h0 => absurd (HE.out.symm.trans h0) (by decide)⟩
      · have HE : Hid (betE m a = plainE m (fV m a 0) (fV m a 1) (fV m a 2) (fV m a 3) a) := by unfold Hid betE; rw [if_neg (by simp [he]), if_neg (by rintro (q | q) <;> contradiction)]
        have hop : fV m a 0 = 1 ∨ (3 ≤ fV m a 0 ∧ fV m a 0 ≤ 16) ∨ (23 ≤ fV m a 0 ∧ fV m a 0 ≤ 27) := by
          unfold leadsB at hl'
          simp at hl'
          omega
        have HD : Hid (∀ X, Below W.heap.size W X → Calls Tryz.prog 29 #[.pointer (some ⟨g, 0, none⟩), .agg #[.int .i64 (fV m a 0), .int .i64 (fV m a 1), .int .i64 (fV m a 2), .int .i64 (fV m a 3)], .int .i64 a] X fun e W' => e = .returned (.int .i64 (betE m a)) ∧ PP K K g gb bc (.slice s0 s1 s2) (betM m a) W W') := fun X hX => by
          rw [HE.out]
          exact hDo X hX hop
        rw [he] at HI
        have h27b : (fV m a 0 == 27) = false := by simpa using h27
        clear h hM hr hDo HLE hl he hl' h27 hIn hop HE
        generalize betE m a = EE at *
        generalize betM m a = MM at *
        generalize fV m a 0 = d0 at *
        generalize fV m a 1 = d1 at *
        generalize fV m a 2 = d2 at *
        generalize fV m a 3 = d3 at *
        go_enter Tryz.func51, Tryz.ntmps51
        go_wp2_with (first | (go_at_call 26; refine HI.out.mono ?_; rintro e W1 ⟨rfl, hb1⟩; have HB1 := Lib.hid (hb1.trans ((oalloc W1 (.cells #[.int .i64 d0, .int .i64 d1, .int .i64 d2, .int .i64 d3] 71)).mono hb1.size)); clear hb1) | (go_at_call 27; refine (HL.out _).mono ?_; rintro e w' ⟨rfl, rfl⟩) | (go_at_call 29; refine (HD.out _ HB1.out).mono ?_; rintro e W2 ⟨rfl, hp2⟩; have HP2 := Lib.hid hp2; clear hp2) | fail)
        go_ret
        exact ⟨rfl, HP2.out.1, fun _ => HP2.out.2⟩
  · have HE : Hid (betE m a = fetchE m a) := by unfold Hid betE; rw [if_pos he]
    have heb : (fetchE m a != 0) = true := by simpa using he
    have HN : Hid (fetchE m a ≠ 0) := he
    clear h hM hr hDo HLE he
    generalize betE m a = EE at *
    generalize fetchE m a = ee at *
    generalize fV m a 0 = d0 at *
    generalize fV m a 1 = d1 at *
    generalize fV m a 2 = d2 at *
    generalize fV m a 3 = d3 at *
    go_enter Tryz.func51, Tryz.ntmps51
    go_wp2_with (first | (go_at_call 26; refine HI.out.mono ?_; rintro e W1 ⟨rfl, hb1⟩; have HB1 := Lib.hid (hb1.trans ((oalloc W1 (.cells #[.int .i64 d0, .int .i64 d1, .int .i64 d2, .int .i64 d3] 71)).mono hb1.size)); clear hb1) | fail)
    go_ret
    exact ⟨by rw [HE.out]; rfl, HKN.out _ HB1.out, fun h0 => absurd (HE.out.symm.trans h0) HN.out⟩

end Go.Proofs.YtgjmbjahgcndnaaGreatDoor.Si

namespace Go.Proofs.YtgjmbjahgcndnaaGreatDoor.Si
open Go.RowKit Isa

/-- The machine that the instruction behind is done in. -/
def leadP (m : Ma) (op : Int) : Ma := if op = 20 ∨ op = 22 then { m with pr := m.pc + 4 } else m
def leadE (m : Ma) (op : Int) : Int := if op = 17 ∨ op = 18 then 0 else betE (leadP m op) (m.pc + 2)
def leadM (m : Ma) (op n imm : Int) : Ma := if op = 17 ∨ op = 18 then { m with pc := if m.t = decide (op = 17) then toI op imm m.pc else m.pc + 2 } else { betM (leadP m op) (m.pc + 2) with pc := goalV m op n imm }
def LdPost (K g gb bc : Nat) (sv : Value) (E : Int) (M : Ma) (W : World) (e : Ending) (W' : World) : Prop := e = .returned (.int .i64 E) ∧ Kept K g gb W W' ∧ (E = 0 → ∃ ta' tc', MR K g M gb bc sv ta' tc' W')

set_option maxRecDepth 100000 in
set_option maxHeartbeats 4000000 in
theorem lead_b (K g : Nat) (m : Ma) (gb bc : Nat) (s0 : Option Addr) (s1 s2 : Nat) (ta : Option Addr) (tc : Nat) (op n mm imm : Int) (W : World) (h : MR K g m gb bc (.slice s0 s1 s2) ta tc W) (hp0 : 0 ≤ m.pc) (hp1 : m.pc ≤ 2097152) (hi0 : -10000 ≤ imm) (hi1 : imm ≤ 10000) (hn0 : 0 ≤ n) (hn1 : n ≤ 15) (hop : op = 17 ∨ op = 18) :
    Calls Tryz.prog 28 #[.pointer (some ⟨g, 0, none⟩), .agg #[.int .i64 op, .int .i64 n, .int .i64 mm, .int .i64 imm]] W (LdPost K g gb bc (.slice s0 s1 s2) (leadE m op) (leadM m op n imm) W) := by
  have eE : leadE m op = 0 := by unfold leadE; rw [if_pos hop]
  have eM : leadM m op n imm = { m with pc := if m.t = decide (op = 17) then toI op imm m.pc else m.pc + 2 } := by unfold leadM; rw [if_pos hop]
  have eG : goalV m op n imm = toI op imm m.pc := by unfold goalV; rw [if_neg (by omega), if_neg (by omega)]
  rw [eE, eM]
  have HG : Hid (∀ X, Below W.heap.size W X → Calls Tryz.prog 50 #[.pointer (some ⟨g, 0, none⟩), .agg #[.int .i64 op, .int .i64 n, .int .i64 mm, .int .i64 imm]] X fun e W' => e = .returned (.int .i64 (toI op imm m.pc)) ∧ Below X.heap.size X W') := fun X hX => by
    rw [← eG]
    exact goal_any K g m gb bc (.slice s0 s1 s2) ta tc op n mm imm X (h.next hX) hp0 hp1 hi0 hi1 hn0 hn1 (by omega)
  have HBH : Hid (∀ X, Calls Tryz.prog 30 #[.int .i64 m.pc, .int .i64 2] X fun e w' => e = .returned (.int .i64 (m.pc + 2)) ∧ X = w') := fun X => behind_any m.pc 2 X (by omega) (by omega)
  have HF : Hid (∀ (X : World) (v : Int), Below W.heap.size W X → LdPost K g gb bc (.slice s0 s1 s2) 0 { m with pc := v } W (.returned (.int .i64 0)) (X.setCell ⟨g, 17, none⟩ (.int .i64 v))) := fun X v hX => ⟨rfl, h.keepSet hX 17 _, fun _ => ⟨ta, tc, (h.next hX).setpc v⟩⟩
  have HC : Hid (∀ X, Below W.heap.size W X → X.cell? ⟨g, 16, none⟩ = some (.bool m.t) ∧ X.cell? ⟨g, 17, none⟩ = some (.int .i64 m.pc) ∧ X.frozen? ⟨g, 17, none⟩ = false) := fun X hX => ⟨(h.next hX).cells.1, (h.next hX).cells.2.1, (h.next hX).fz 17⟩
  have HK : Hid (∀ X : World, Below (W.alloc (.cells #[.int .i64 op, .int .i64 n, .int .i64 mm, .int .i64 imm] 71)).heap.size (W.alloc (.cells #[.int .i64 op, .int .i64 n, .int .i64 mm, .int .i64 imm] 71)) X → X.cell? ⟨W.heap.size, 0, none⟩ = some (.int .i64 op) ∧ Below W.heap.size W X) := fun X hX => by
    have k := (hX.block _ (by simp)).trans (blk_new W #[.int .i64 op, .int .i64 n, .int .i64 mm, .int .i64 imm] 71)
    exact ⟨cell_of_block (i := 0) k rfl, (oalloc _ _).trans (hX.mono (by simp))⟩
  obtain ⟨pv, hpv⟩ : ∃ x, x = (if m.t = decide (op = 17) then toI op imm m.pc else m.pc + 2) := ⟨_, rfl⟩
  rw [← hpv]
  obtain ⟨tt, htt⟩ : ∃ tt, tt = m.t := ⟨_, rfl⟩
  rw [← htt] at HC hpv
  clear h htt eE eM eG
  generalize toI op imm m.pc = to' at *
  rcases hop with hop | hop
  · rw [show decide (op = 17) = true by simpa using hop] at hpv
    have ho1 : 17 ≤ op := by omega
    have ho2 : op ≤ 17 := by omega
    clear hop
    cases tt
    · have HPV : Hid (pv = m.pc + 2) := hpv
      clear hpv
      go_enter Tryz.func28, Tryz.ntmps28
      go_wp2_with (first | (go_at_call 50; refine (HG.out _ (oalloc _ _)).mono ?_; rintro e W1 ⟨rfl, hb1⟩; obtain ⟨y0, hbW⟩ := HK.out W1 hb1; have HB1 := Lib.hid hbW; obtain ⟨z16, z17, zf⟩ := HC.out W1 hbW; clear hb1 hbW) | fail)
      go_quiet (fail)
      go_wp2_with (first | (go_at_call 30; refine (HBH.out _).mono ?_; rintro e w' ⟨rfl, rfl⟩) | fail)
      go_ret
      rw [HPV.out]
      exact HF.out _ _ (HB1.out.trans (Go.Joins.below_draws _ W1 nq))
    · have HPV : Hid (pv = to') := hpv
      clear hpv
      go_enter Tryz.func28, Tryz.ntmps28
      go_wp2_with (first | (go_at_call 50; refine (HG.out _ (oalloc _ _)).mono ?_; rintro e W1 ⟨rfl, hb1⟩; obtain ⟨y0, hbW⟩ := HK.out W1 hb1; have HB1 := Lib.hid hbW; obtain ⟨z16, z17, zf⟩ := HC.out W1 hbW; clear hb1 hbW) | fail)
      go_quiet (fail)
      go_wp2_with (first | (go_at_call 30; refine (HBH.out _).mono ?_; rintro e w' ⟨rfl, rfl⟩) | fail)
      go_ret
      rw [HPV.out]
      exact HF.out _ _ (HB1.out.trans (Go.Joins.below_draws _ W1 nq))
  · rw [show decide (op = 17) = false by simp; omega] at hpv
    have ho1 : 18 ≤ op := by omega
    have ho2 : op ≤ 18 := by omega
    clear hop
    cases tt
    · have HPV : Hid (pv = to') := hpv
      clear hpv
      go_enter Tryz.func28, Tryz.ntmps28
      go_wp2_with (first | (go_at_call 50; refine (HG.out _ (oalloc _ _)).mono ?_; rintro e W1 ⟨rfl, hb1⟩; obtain ⟨y0, hbW⟩ := HK.out W1 hb1; have HB1 := Lib.hid hbW; obtain ⟨z16, z17, zf⟩ := HC.out W1 hbW; clear hb1 hbW) | fail)
      go_quiet (fail)
      go_wp2_with (first | (go_at_call 30; refine (HBH.out _).mono ?_; rintro e w' ⟨rfl, rfl⟩) | fail)
      go_ret
      rw [HPV.out]
      exact HF.out _ _ (HB1.out.trans (Go.Joins.below_draws _ W1 nq))
    · have HPV : Hid (pv = m.pc + 2) := hpv
      clear hpv
      go_enter Tryz.func28, Tryz.ntmps28
      go_wp2_with (first | (go_at_call 50; refine (HG.out _ (oalloc _ _)).mono ?_; rintro e W1 ⟨rfl, hb1⟩; obtain ⟨y0, hbW⟩ := HK.out W1 hb1; have HB1 := Lib.hid hbW; obtain ⟨z16, z17, zf⟩ := HC.out W1 hbW; clear hb1 hbW) | fail)
      go_quiet (fail)
      go_wp2_with (first | (go_at_call 30; refine (HBH.out _).mono ?_; rintro e w' ⟨rfl, rfl⟩) | fail)
      go_ret
      rw [HPV.out]
      exact HF.out _ _ (HB1.out.trans (Go.Joins.below_draws _ W1 nq))

set_option maxRecDepth 100000 in
set_option maxHeartbeats 4000000 in
theorem lead_n (K g : Nat) (m : Ma) (gb bc : Nat) (s0 : Option Addr) (s1 s2 : Nat) (ta : Option Addr) (tc : Nat) (op n mm imm : Int) (W : World) (h : MR K g m gb bc (.slice s0 s1 s2) ta tc W) (hM : MOk m) (hr : ∀ k, in32 (m.r k)) (hbc : m.by'.length ≤ bc) (hp0 : 0 ≤ m.pc) (hp1 : m.pc ≤ 2097152) (hi0 : -10000 ≤ imm) (hi1 : imm ≤ 10000) (hn0 : 0 ≤ n) (hn1 : n ≤ 15) (hop : op = 2 ∨ op = 19 ∨ op = 21) (hres : Res (fV m (m.pc + 2) 0)) :
    Calls Tryz.prog 28 #[.pointer (some ⟨g, 0, none⟩), .agg #[.int .i64 op, .int .i64 n, .int .i64 mm, .int .i64 imm]] W (LdPost K g gb bc (.slice s0 s1 s2) (leadE m op) (leadM m op n imm) W) := by
  have hP : leadP m op = m := by unfold leadP; rw [if_neg (by omega)]
  have eE : leadE m op = betE m (m.pc + 2) := by unfold leadE; rw [if_neg (by omega), hP]
  have eM : leadM m op n imm = { betM m (m.pc + 2) with pc := goalV m op n imm } := by unfold leadM; rw [if_neg (by omega), hP]
  rw [eE, eM]
  have HG : Hid (∀ X, Below W.heap.size W X → Calls Tryz.prog 50 #[.pointer (some ⟨g, 0, none⟩), .agg #[.int .i64 op, .int .i64 n, .int .i64 mm, .int .i64 imm]] X fun e W' => e = .returned (.int .i64 (goalV m op n imm)) ∧ Below X.heap.size X W') := fun X hX => goal_any K g m gb bc (.slice s0 s1 s2) ta tc op n mm imm X (h.next hX) hp0 hp1 hi0 hi1 hn0 hn1 (by omega)
  have HBH : Hid (∀ X, Calls Tryz.prog 30 #[.int .i64 m.pc, .int .i64 2] X fun e w' => e = .returned (.int .i64 (m.pc + 2)) ∧ X = w') := fun X => behind_any m.pc 2 X (by omega) (by omega)
  have HBT : Hid (∀ X, Below W.heap.size W X → Calls Tryz.prog 51 #[.pointer (some ⟨g, 0, none⟩), .int .i64 (m.pc + 2)] X fun e W' => e = .returned (.int .i64 (betE m (m.pc + 2))) ∧ Kept K g gb W W' ∧ (betE m (m.pc + 2) = 0 → ∃ ta' tc', MR K g (betM m (m.pc + 2)) gb bc (.slice s0 s1 s2) ta' tc' W')) := fun X hX =>
    (between_any K g m gb bc s0 s1 s2 ta tc (m.pc + 2) X (h.next hX) hM hr hbc (by omega) (by omega) hres).mono fun _ _ ⟨h1, h2, h3⟩ => ⟨h1, (h.kn hX).trans h2, h3⟩
  clear hres
  have HC : Hid (∀ X, Below W.heap.size W X → X.cell? ⟨g, 17, none⟩ = some (.int .i64 m.pc) ∧ X.cell? ⟨g, 18, none⟩ = some (.int .i64 m.pr) ∧ X.frozen? ⟨g, 18, none⟩ = false) := fun X hX => ⟨(h.next hX).cells.2.1, (h.next hX).cells.2.2.1, (h.next hX).fz 18⟩
  have HK : Hid (∀ X : World, Below (W.alloc (.cells #[.int .i64 op, .int .i64 n, .int .i64 mm, .int .i64 imm] 71)).heap.size (W.alloc (.cells #[.int .i64 op, .int .i64 n, .int .i64 mm, .int .i64 imm] 71)) X → X.cell? ⟨W.heap.size, 0, none⟩ = some (.int .i64 op) ∧ Below W.heap.size W X) := fun X hX => by
    have k := (hX.block _ (by simp)).trans (blk_new W #[.int .i64 op, .int .i64 n, .int .i64 mm, .int .i64 imm] 71)
    exact ⟨cell_of_block (i := 0) k rfl, (oalloc _ _).trans (hX.mono (by simp))⟩
  obtain ⟨EE, hEE⟩ : ∃ x, x = betE m (m.pc + 2) := ⟨_, rfl⟩
  obtain ⟨MM, hMM⟩ : ∃ x, x = betM m (m.pc + 2) := ⟨_, rfl⟩
  rw [← hEE, ← hMM] at HBT
  rw [← hEE, ← hMM]
  have q17 : (op == 17) = false := by simp; omega
  have q18 : (op == 18) = false := by simp; omega
  have q20 : (op == 20) = false := by simp; omega
  have q22 : (op == 22) = false := by simp; omega
  clear h hM hr hEE hMM hP eE eM hop
  generalize goalV m op n imm = to' at *
  by_cases h0 : EE = 0
  · subst h0
    go_enter Tryz.func28, Tryz.ntmps28
    go_wp2_with (first | (go_at_call 50; refine (HG.out _ (oalloc _ _)).mono ?_; rintro e W1 ⟨rfl, hb1⟩; obtain ⟨y0, hbW⟩ := HK.out W1 hb1; have HB1 := Lib.hid hbW; obtain ⟨z17, z18, zf⟩ := HC.out W1 hbW; clear hb1 hbW) | (go_at_call 30; refine (HBH.out _).mono ?_; rintro e w' ⟨rfl, rfl⟩) | (go_at_call 51; refine (HBT.out _ HB1.out).mono ?_; rintro e W2 ⟨rfl, hk2, hm2⟩; obtain ⟨ta2, tc2, hm3⟩ := hm2 (by first | rfl | trivial); have HK2 := Lib.hid hk2; have HM2 := Lib.hid hm3; have x17 := hm3.cells.2.1; have xf := hm3.fz 17; clear hk2 hm2 hm3) | fail)
    all_goals
      go_ret
      exact ⟨rfl, HK2.out.trans (Kept.cell ⟨g, 17, none⟩ _), fun _ => ⟨_, _, HM2.out.setpc _⟩⟩
  · have h0b : (EE != 0) = true := by simpa using h0
    have HN := Lib.hid h0
    clear h0
    go_enter Tryz.func28, Tryz.ntmps28
    go_wp2_with (first | (go_at_call 50; refine (HG.out _ (oalloc _ _)).mono ?_; rintro e W1 ⟨rfl, hb1⟩; obtain ⟨y0, hbW⟩ := HK.out W1 hb1; have HB1 := Lib.hid hbW; obtain ⟨z17, z18, zf⟩ := HC.out W1 hbW; clear hb1 hbW) | (go_at_call 30; refine (HBH.out _).mono ?_; rintro e w' ⟨rfl, rfl⟩) | (go_at_call 51; refine (HBT.out _ HB1.out).mono ?_; rintro e W2 ⟨rfl, hk2, hm2⟩; have HK2 := Lib.hid hk2; clear hk2 hm2) | fail)
    all_goals
      go_ret
      exact ⟨rfl, HK2.out, fun h1 => absurd h1 HN.out⟩

set_option maxRecDepth 100000 in
set_option maxHeartbeats 4000000 in
theorem lead_p (K g : Nat) (m : Ma) (gb bc : Nat) (s0 : Option Addr) (s1 s2 : Nat) (ta : Option Addr) (tc : Nat) (op n mm imm : Int) (W : World) (h : MR K g m gb bc (.slice s0 s1 s2) ta tc W) (hM : MOk m) (hr : ∀ k, in32 (m.r k)) (hbc : m.by'.length ≤ bc) (hp0 : 0 ≤ m.pc) (hp1 : m.pc ≤ 2097152) (hi0 : -10000 ≤ imm) (hi1 : imm ≤ 10000) (hn0 : 0 ≤ n) (hn1 : n ≤ 15) (hop : op = 20 ∨ op = 22) (hres : Res (fV m (m.pc + 2) 0)) :
    Calls Tryz.prog 28 #[.pointer (some ⟨g, 0, none⟩), .agg #[.int .i64 op, .int .i64 n, .int .i64 mm, .int .i64 imm]] W (LdPost K g gb bc (.slice s0 s1 s2) (leadE m op) (leadM m op n imm) W) := by
  have hP : leadP m op = ({ m with pr := m.pc + 4 } : Ma) := by unfold leadP; rw [if_pos hop]
  have eE : leadE m op = betE ({ m with pr := m.pc + 4 } : Ma) (m.pc + 2) := by unfold leadE; rw [if_neg (by omega), hP]
  have eM : leadM m op n imm = { betM ({ m with pr := m.pc + 4 } : Ma) (m.pc + 2) with pc := goalV m op n imm } := by unfold leadM; rw [if_neg (by omega), hP]
  rw [eE, eM]
  have HG : Hid (∀ X, Below W.heap.size W X → Calls Tryz.prog 50 #[.pointer (some ⟨g, 0, none⟩), .agg #[.int .i64 op, .int .i64 n, .int .i64 mm, .int .i64 imm]] X fun e W' => e = .returned (.int .i64 (goalV m op n imm)) ∧ Below X.heap.size X W') := fun X hX => goal_any K g m gb bc (.slice s0 s1 s2) ta tc op n mm imm X (h.next hX) hp0 hp1 hi0 hi1 hn0 hn1 (by omega)
  have HBH : Hid (∀ X, Calls Tryz.prog 30 #[.int .i64 m.pc, .int .i64 2] X fun e w' => e = .returned (.int .i64 (m.pc + 2)) ∧ X = w') := fun X => behind_any m.pc 2 X (by omega) (by omega)
  have HBT : Hid (∀ X, Below W.heap.size W X → Calls Tryz.prog 51 #[.pointer (some ⟨g, 0, none⟩), .int .i64 (m.pc + 2)] (X.setCell ⟨g, 18, none⟩ (.int .i64 (m.pc + 4))) fun e W' => e = .returned (.int .i64 (betE ({ m with pr := m.pc + 4 } : Ma) (m.pc + 2))) ∧ Kept K g gb W W' ∧ (betE ({ m with pr := m.pc + 4 } : Ma) (m.pc + 2) = 0 → ∃ ta' tc', MR K g (betM ({ m with pr := m.pc + 4 } : Ma) (m.pc + 2)) gb bc (.slice s0 s1 s2) ta' tc' W')) := fun X hX =>
    (between_any K g ({ m with pr := m.pc + 4 } : Ma) gb bc s0 s1 s2 ta tc (m.pc + 2) _ ((h.next hX).setpr (m.pc + 4)) ⟨hM.b0, hM.b1, hM.bl, hM.tl⟩ hr hbc (by omega) (by omega) hres).mono fun _ _ ⟨h1, h2, h3⟩ => ⟨h1, (h.keepSet hX 18 _).trans h2, h3⟩
  clear hres
  have HB4 : Hid (∀ X, Calls Tryz.prog 30 #[.int .i64 m.pc, .int .i64 4] X fun e w' => e = .returned (.int .i64 (m.pc + 4)) ∧ X = w') := fun X => behind_any m.pc 4 X (by omega) (by omega)
  have HC : Hid (∀ X, Below W.heap.size W X → X.cell? ⟨g, 17, none⟩ = some (.int .i64 m.pc) ∧ X.cell? ⟨g, 18, none⟩ = some (.int .i64 m.pr) ∧ X.frozen? ⟨g, 18, none⟩ = false) := fun X hX => ⟨(h.next hX).cells.2.1, (h.next hX).cells.2.2.1, (h.next hX).fz 18⟩
  have HK : Hid (∀ X : World, Below (W.alloc (.cells #[.int .i64 op, .int .i64 n, .int .i64 mm, .int .i64 imm] 71)).heap.size (W.alloc (.cells #[.int .i64 op, .int .i64 n, .int .i64 mm, .int .i64 imm] 71)) X → X.cell? ⟨W.heap.size, 0, none⟩ = some (.int .i64 op) ∧ Below W.heap.size W X) := fun X hX => by
    have k := (hX.block _ (by simp)).trans (blk_new W #[.int .i64 op, .int .i64 n, .int .i64 mm, .int .i64 imm] 71)
    exact ⟨cell_of_block (i := 0) k rfl, (oalloc _ _).trans (hX.mono (by simp))⟩
  obtain ⟨EE, hEE⟩ : ∃ x, x = betE ({ m with pr := m.pc + 4 } : Ma) (m.pc + 2) := ⟨_, rfl⟩
  obtain ⟨MM, hMM⟩ : ∃ x, x = betM ({ m with pr := m.pc + 4 } : Ma) (m.pc + 2) := ⟨_, rfl⟩
  rw [← hEE, ← hMM] at HBT
  rw [← hEE, ← hMM]
  have ho1 : 20 ≤ op := by omega
  have ho2 : op ≤ 22 := by omega
  have ho3 : op ≠ 21 := by omega
  clear h hM hr hEE hMM hP eE eM hop
  generalize goalV m op n imm = to' at *
  by_cases h0 : EE = 0
  · subst h0
    go_enter Tryz.func28, Tryz.ntmps28
    go_wp2_with (first | (go_at_call 50; refine (HG.out _ (oalloc _ _)).mono ?_; rintro e W1 ⟨rfl, hb1⟩; obtain ⟨y0, hbW⟩ := HK.out W1 hb1; have HB1 := Lib.hid hbW; obtain ⟨z17, z18, zf⟩ := HC.out W1 hbW; clear hb1 hbW) | (go_at_call 30; refine (HBH.out _).mono ?_; rintro e w' ⟨rfl, rfl⟩) | (go_at_call 30; refine (HB4.out _).mono ?_; rintro e w' ⟨rfl, rfl⟩) | (go_at_call 51; refine (HBT.out _ HB1.out).mono ?_; rintro e W2 ⟨rfl, hk2, hm2⟩; obtain ⟨ta2, tc2, hm3⟩ := hm2 (by first | rfl | trivial); have HK2 := Lib.hid hk2; have HM2 := Lib.hid hm3; have x17 := hm3.cells.2.1; have xf := hm3.fz 17; clear hk2 hm2 hm3) | fail)
    all_goals
      go_ret
      exact ⟨rfl, HK2.out.trans (Kept.cell ⟨g, 17, none⟩ _), fun _ => ⟨_, _, HM2.out.setpc _⟩⟩
  · have h0b : (EE != 0) = true := by simpa using h0
    have HN := Lib.hid h0
    clear h0
    go_enter Tryz.func28, Tryz.ntmps28
    go_wp2_with (first | (go_at_call 50; refine (HG.out _ (oalloc _ _)).mono ?_; rintro e W1 ⟨rfl, hb1⟩; obtain ⟨y0, hbW⟩ := HK.out W1 hb1; have HB1 := Lib.hid hbW; obtain ⟨z17, z18, zf⟩ := HC.out W1 hbW; clear hb1 hbW) | (go_at_call 30; refine (HBH.out _).mono ?_; rintro e w' ⟨rfl, rfl⟩) | (go_at_call 30; refine (HB4.out _).mono ?_; rintro e w' ⟨rfl, rfl⟩) | (go_at_call 51; refine (HBT.out _ HB1.out).mono ?_; rintro e W2 ⟨rfl, hk2, hm2⟩; have HK2 := Lib.hid hk2; clear hk2 hm2) | fail)
    all_goals
      go_ret
      exact ⟨rfl, HK2.out, fun h1 => absurd h1 HN.out⟩

theorem lead_any (K g : Nat) (m : Ma) (gb bc : Nat) (s0 : Option Addr) (s1 s2 : Nat) (ta : Option Addr) (tc : Nat) (op n mm imm : Int) (W : World) (h : MR K g m gb bc (.slice s0 s1 s2) ta tc W) (hM : MOk m) (hr : ∀ k, in32 (m.r k)) (hbc : m.by'.length ≤ bc) (hp0 : 0 ≤ m.pc) (hp1 : m.pc ≤ 2097152) (hi0 : -10000 ≤ imm) (hi1 : imm ≤ 10000) (hn0 : 0 ≤ n) (hn1 : n ≤ 15) (hop : op = 2 ∨ (17 ≤ op ∧ op ≤ 22)) (hres : ¬ (op = 17 ∨ op = 18) → Res (fV m (m.pc + 2) 0)) :
    Calls Tryz.prog 28 #[.pointer (some ⟨g, 0, none⟩), .agg #[.int .i64 op, .int .i64 n, .int .i64 mm, .int .i64 imm]] W (LdPost K g gb bc (.slice s0 s1 s2) (leadE m op) (leadM m op n imm) W) := by
  by_cases h1 : op = 17 ∨ op = 18
  · exact lead_b K g m gb bc s0 s1 s2 ta tc op n mm imm W h hp0 hp1 hi0 hi1 hn0 hn1 h1
  · by_cases h2 : op = 20 ∨ op = 22
    · exact lead_p K g m gb bc s0 s1 s2 ta tc op n mm imm W h hM hr hbc hp0 hp1 hi0 hi1 hn0 hn1 h2 (hres h1)
    · exact lead_n K g m gb bc s0 s1 s2 ta tc op n mm imm W h hM hr hbc hp0 hp1 hi0 hi1 hn0 hn1 (by omega) (hres h1)

end Go.Proofs.YtgjmbjahgcndnaaGreatDoor.Si
