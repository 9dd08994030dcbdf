import Derived.Test.YtfmljailbebfgaaGreatDoorPut18
set_option maxHeartbeats 8000000
set_option maxRecDepth 100000
namespace Go.Proofs.YtfmljailbebfgaaGreatDoor.Si
open Go.RowKit Isa
def qEf (op n : Int) : Int := if op = 14 then wrap32 (2 * n) else if op = 15 then n % 4294967296 / 2 else wrap32 (n - 1)
def qHl (op n : Int) : Bool := if op = 14 then decide (n < 0) else if op = 15 then (n % 2 == 1) else (wrap32 (n - 1) == 0)
theorem qFI (op n : Int) (w : World) (h : op = 14 \/ op = 15 \/ op = 16) (h0 : -2147483648 <= n) (h1 : n <= 2147483647) : Calls Tryz.prog 58 #[.int .i64 op, .int .i64 n] w fun e w' => e = .returned (.tuple #[.int .i64 (qEf op n), .bool (qHl op n)]) /\ w = w' := by
 have := qL6 op n w h h0 h1
 rcases h with rfl | rfl | rfl
 all_goals exact this
theorem tmod_odd (n : Int) : (n.tmod 2 != 0) = (n % 2 == 1) := by
 by_cases h : n % 2 = 1
 ·have e : ¬ n.tmod 2 = 0 := fun h2 => by have := Int.emod_eq_zero_of_dvd (Int.dvd_of_tmod_eq_zero h2); omega
  simp [h, e]
 ·have e : n.tmod 2 = 0 := Int.tmod_eq_zero_of_dvd (Int.dvd_of_emod_eq_zero (by omega))
  simp [h, e]
theorem qFP (m : Ma) (op n mm imm at' : Int) (h : op = 14 \/ op = 15 \/ op = 16) (rn0 : -2147483648 <= m.r n.toNat) (rn1 : m.r n.toNat <= 2147483647) : qT m op n mm imm at' = { setR m n.toNat (qEf op (m.r n.toNat)) with t := qHl op (m.r n.toNat) } := by
 have e1 := qIU (m := m) (n := n) rn0 rn1
 have e2 := tmod_odd (m.r n.toNat)
 rcases h with rfl | rfl | rfl
 all_goals
  unfold qT qEf qHl setR
  simp [e1, e2]
theorem do_h14 (K g : Nat) (m : Ma) (gb bc : Nat) (s0 : Option Addr) (s1 s2 : Nat) (ta : Option Addr) (tc : Nat) (op n mm imm at' : Int) (W : World) (h : MR K g m gb bc (.slice s0 s1 s2) ta tc W) (hM : MOk m) (hr : ∀ k, in32 (m.r k)) (ha0 : 0 <= at') (ha1 : at' <= 1000000000000) (hi0 : -10000 <= imm) (hi1 : imm <= 10000) (hn0 : 0 <= n) (hn1 : n <= 15) (hm0 : 0 <= mm) (hm1 : mm <= 15) (hop : op = 14 \/ op = 15 \/ op = 16) (hv : op = 14) :
  Calls Tryz.prog 31 #[.pointer (some ⟨g, 0, none⟩), .agg #[.int .i64 op, .int .i64 n, .int .i64 mm, .int .i64 imm], .int .i64 at'] W fun e W' => e = .returned (.int .i64 (qu m op n mm imm at')) /\ PP K K g gb bc (.slice s0 s1 s2) (qT m op n mm imm at') W W' := by
 have hused := And.intro hM (And.intro ha0 (And.intro ha1 (And.intro hi0 (And.intro hi1 (And.intro hm0 hm1)))))
 clear hused
 obtain ⟨V, hV⟩ : ∃ V, V = W.alloc (.cells #[.int .i64 op, .int .i64 n, .int .i64 mm, .int .i64 imm] 73) := ⟨_, rfl⟩
 have hb : Below W.heap.size W V := by rw [hV]; exact qD _ _
 have kV : V.heap[W.heap.size]? = some (.cells #[.int .i64 op, .int .i64 n, .int .i64 mm, .int .i64 imm] 73 (0, 0)) := by rw [hV]; exact qH _ _ _
 have c0 := qA (i := 0) kV rfl
 have hgW : g < W.heap.size := h.lt
 have hgne : W.heap.size ≠ g := by omega
 have hn16 : n.toNat < 16 := by omega
 have hm16 : mm.toNat < 16 := by omega
 have hn2 : n < 16 := by omega
 have hm2 : mm < 16 := by omega
 obtain ⟨rn0, rn1⟩ := hr n.toNat
 obtain ⟨rm0, rm1⟩ := hr mm.toNat
 have HV := Lib.hid hV.symm
 have HK0 : Hid (V.drew.heap[W.heap.size]? = some (.cells #[.int .i64 op, .int .i64 n, .int .i64 mm, .int .i64 imm] 73 (0, 0))) := kV
 have HB0 := Lib.hid hb.drew
 have HM0 := Lib.hid (h.next hb.drew)
 have HW := Lib.hid h
 have HC : Hid (∀ X, Calls Tryz.prog 58 #[.int .i64 op, .int .i64 (m.r n.toNat)] X fun e w' => e = .returned (.tuple #[.int .i64 (qEf op (m.r n.toNat)), .bool (qHl op (m.r n.toNat))]) /\ X = w') := fun X => qFI op _ X hop rn0 rn1
 have HE : Hid (qu m op n mm imm at' = 0) := by
  unfold Hid qu
  rw [if_neg (by omega)]
 have HMM : Hid (qT m op n mm imm at' = { setR m n.toNat (qEf op (m.r n.toNat)) with t := qHl op (m.r n.toNat) }) := qFP m op n mm imm at' hop rn0 rn1
 have ho1 : 14 <= op := by omega
 have ho2 : op <= 14 := by omega
 clear hop hv
 clear hV hb kV h hM hr
 go_enter Tryz.func31, Tryz.ntmps31
 go_upto_region 1 with fail
 rw [HV.out]
 clear HV
 go_upto_region 20 with fail
 refine wp_region_noPanic ?_
 refine wp_region_held_drew (S := fun w' => w'.heap[W.heap.size]? = some (.cells #[.int .i64 op, .int .i64 n, .int .i64 mm, .int .i64 imm] 73 (0, 0))) (by kernel_rfl) HK0.out (fun hHeld => ?_)
 generalize V.drew = V0 at *
 clear HK0 c0
 refine tk 0 119 hHeld ?_
 simp only [sA, sB, sC]
 refine tk 1 120 hHeld ?_
 simp only [sA, sB, sC]
 refine tk2 2 121 (v := ?_) ?_ hHeld ?_
 rotate_left
 ·intro w hSw
  have y := qA (i := 1) hSw rfl
  go_simp
  try with_reducible rfl
 simp only [sA, sB, sC]
 refine tk 3 122 hHeld ?_
 simp only [sA, sB, sC]
 refine tk 4 123 hHeld ?_
 simp only [sA, sB, sC]
 refine tk2 5 124 (v := ?_) ?_ hHeld ?_
 rotate_left
 ·intro w hSw
  have y := qA (i := 0) hSw rfl
  go_simp
  try with_reducible rfl
 simp only [sA, sB, sC]
 refine tk 6 125 hHeld ?_
 simp only [sA, sB, sC]
 refine tk 7 126 hHeld ?_
 simp only [sA, sB, sC]
 refine tk2 8 127 (v := ?_) ?_ hHeld ?_
 rotate_left
 ·intro w hSw
  have y := qA (i := 1) hSw rfl
  go_simp
  try with_reducible rfl
 simp only [sA, sB, sC]
 refine tk 9 128 hHeld ?_
 simp only [sA, sB, sC]
 refine tk 10 129 hHeld ?_
 simp only [sA, sB, sC]
 refine tk 11 130 hHeld ?_
 simp only [sA, sB, sC]
 refine tk 17 135 hHeld ?_
 simp only [sA, sB, sC]
 refine tk 18 136 hHeld ?_
 simp only [sA, sB, sC]
 refine wr1 12 fun K hK => ?_
 have xl := HM0.out.rn n.toNat hn16
 go_simp
 refine hK.out _ _ hHeld (fun hHeld => ?_)
 clear hK K xl
 refine wr1 13 fun K hK => ?_
 go_simp
 refine (HC.out V0).mono ?_
 rintro e V1 ⟨rfl, hb1⟩
 rw [<- hb1]
 refine hK.out _ _ hHeld (fun hHeld => ?_)
 clear hK K hb1
 refine tk 14 118 hHeld ?_
 simp only [sA, sB, sC]
 refine tk 15 133 hHeld ?_
 simp only [sA, sB, sC]
 refine tk 16 134 hHeld ?_
 simp only [sA, sB, sC]
 refine tk 19 137 hHeld ?_
 simp only [sA, sB, sC]
 refine wr1 20 fun K hK => ?_
 have xs := HM0.out.rn n.toNat hn16
 have xf := HM0.out.fz n.toNat
 have HM1 := Lib.hid (HM0.out.reg n.toNat hn16 (qEf op (m.r n.toNat)))
 go_simp
 refine hK.out _ _ (by show (World.setCell V0 ⟨g, n.toNat, none⟩ _).heap[W.heap.size]? = _; rw [Below.heap_setCell _ _ _ _ (by exact hgne)]; exact hHeld) (fun hHeld => ?_)
 clear hK K xs xf
 refine tk 21 138 hHeld ?_
 simp only [sA, sB, sC]
 refine tk 22 139 hHeld ?_
 simp only [sA, sB, sC]
 refine wr1 23 fun K hK => ?_
 have xs := HM1.out.cells.1
 have xf := HM1.out.fz 16
 go_simp
 refine hK.out _ _ (by show (World.setCell (V0.setCell ⟨g, n.toNat, none⟩ (.int .i64 (qEf op (m.r n.toNat)))) ⟨g, 16, none⟩ _).heap[W.heap.size]? = _; rw [Below.heap_setCell _ _ _ _ (by exact hgne)]; exact hHeld) (fun hHeld => ?_)
 clear hK K xs xf
 refine wpAnyH_done (by kernel_rfl) ?_ _
 refine NoPanic.normal ?_
 go_wp2
 go_ret
 refine ⟨by rw [HE.out]; rfl, ?_⟩
 rw [HMM.out]
 exact ((PP.of HW.out HB0.out HW.out.kz).reg n.toNat hn16 _).flag _
theorem do_h16 (K g : Nat) (m : Ma) (gb bc : Nat) (s0 : Option Addr) (s1 s2 : Nat) (ta : Option Addr) (tc : Nat) (op n mm imm at' : Int) (W : World) (h : MR K g m gb bc (.slice s0 s1 s2) ta tc W) (hM : MOk m) (hr : ∀ k, in32 (m.r k)) (ha0 : 0 <= at') (ha1 : at' <= 1000000000000) (hi0 : -10000 <= imm) (hi1 : imm <= 10000) (hn0 : 0 <= n) (hn1 : n <= 15) (hm0 : 0 <= mm) (hm1 : mm <= 15) (hop : op = 14 \/ op = 15 \/ op = 16) (hv : op = 16) :
  Calls Tryz.prog 31 #[.pointer (some ⟨g, 0, none⟩), .agg #[.int .i64 op, .int .i64 n, .int .i64 mm, .int .i64 imm], .int .i64 at'] W fun e W' => e = .returned (.int .i64 (qu m op n mm imm at')) /\ PP K K g gb bc (.slice s0 s1 s2) (qT m op n mm imm at') W W' := by
 have hused := And.intro hM (And.intro ha0 (And.intro ha1 (And.intro hi0 (And.intro hi1 (And.intro hm0 hm1)))))
 clear hused
 obtain ⟨V, hV⟩ : ∃ V, V = W.alloc (.cells #[.int .i64 op, .int .i64 n, .int .i64 mm, .int .i64 imm] 73) := ⟨_, rfl⟩
 have hb : Below W.heap.size W V := by rw [hV]; exact qD _ _
 have kV : V.heap[W.heap.size]? = some (.cells #[.int .i64 op, .int .i64 n, .int .i64 mm, .int .i64 imm] 73 (0, 0)) := by rw [hV]; exact qH _ _ _
 have c0 := qA (i := 0) kV rfl
 have hgW : g < W.heap.size := h.lt
 have hgne : W.heap.size ≠ g := by omega
 have hn16 : n.toNat < 16 := by omega
 have hm16 : mm.toNat < 16 := by omega
 have hn2 : n < 16 := by omega
 have hm2 : mm < 16 := by omega
 obtain ⟨rn0, rn1⟩ := hr n.toNat
 obtain ⟨rm0, rm1⟩ := hr mm.toNat
 have HV := Lib.hid hV.symm
 have HK0 : Hid (V.drew.heap[W.heap.size]? = some (.cells #[.int .i64 op, .int .i64 n, .int .i64 mm, .int .i64 imm] 73 (0, 0))) := kV
 have HB0 := Lib.hid hb.drew
 have HM0 := Lib.hid (h.next hb.drew)
 have HW := Lib.hid h
 have HC : Hid (∀ X, Calls Tryz.prog 58 #[.int .i64 op, .int .i64 (m.r n.toNat)] X fun e w' => e = .returned (.tuple #[.int .i64 (qEf op (m.r n.toNat)), .bool (qHl op (m.r n.toNat))]) /\ X = w') := fun X => qFI op _ X hop rn0 rn1
 have HE : Hid (qu m op n mm imm at' = 0) := by
  unfold Hid qu
  rw [if_neg (by omega)]
 have HMM : Hid (qT m op n mm imm at' = { setR m n.toNat (qEf op (m.r n.toNat)) with t := qHl op (m.r n.toNat) }) := qFP m op n mm imm at' hop rn0 rn1
 have ho1 : 16 <= op := by omega
 have ho2 : op <= 16 := by omega
 clear hop hv
 clear hV hb kV h hM hr
 go_enter Tryz.func31, Tryz.ntmps31
 go_upto_region 1 with fail
 rw [HV.out]
 clear HV
 go_upto_region 20 with fail
 refine wp_region_noPanic ?_
 refine wp_region_held_drew (S := fun w' => w'.heap[W.heap.size]? = some (.cells #[.int .i64 op, .int .i64 n, .int .i64 mm, .int .i64 imm] 73 (0, 0))) (by kernel_rfl) HK0.out (fun hHeld => ?_)
 generalize V.drew = V0 at *
 clear HK0 c0
 refine tk 0 119 hHeld ?_
 simp only [sA, sB, sC]
 refine tk 1 120 hHeld ?_
 simp only [sA, sB, sC]
 refine tk2 2 121 (v := ?_) ?_ hHeld ?_
 rotate_left
 ·intro w hSw
  have y := qA (i := 1) hSw rfl
  go_simp
  try with_reducible rfl
 simp only [sA, sB, sC]
 refine tk 3 122 hHeld ?_
 simp only [sA, sB, sC]
 refine tk 4 123 hHeld ?_
 simp only [sA, sB, sC]
 refine tk2 5 124 (v := ?_) ?_ hHeld ?_
 rotate_left
 ·intro w hSw
  have y := qA (i := 0) hSw rfl
  go_simp
  try with_reducible rfl
 simp only [sA, sB, sC]
 refine tk 6 125 hHeld ?_
 simp only [sA, sB, sC]
 refine tk 7 126 hHeld ?_
 simp only [sA, sB, sC]
 refine tk2 8 127 (v := ?_) ?_ hHeld ?_
 rotate_left
 ·intro w hSw
  have y := qA (i := 1) hSw rfl
  go_simp
  try with_reducible rfl
 simp only [sA, sB, sC]
 refine tk 9 128 hHeld ?_
 simp only [sA, sB, sC]
 refine tk 10 129 hHeld ?_
 simp only [sA, sB, sC]
 refine tk 11 130 hHeld ?_
 simp only [sA, sB, sC]
 refine tk 17 135 hHeld ?_
 simp only [sA, sB, sC]
 refine tk 18 136 hHeld ?_
 simp only [sA, sB, sC]
 refine wr1 12 fun K hK => ?_
 have xl := HM0.out.rn n.toNat hn16
 go_simp
 refine hK.out _ _ hHeld (fun hHeld => ?_)
 clear hK K xl
 refine wr1 13 fun K hK => ?_
 go_simp
 refine (HC.out V0).mono ?_
 rintro e V1 ⟨rfl, hb1⟩
 rw [<- hb1]
 refine hK.out _ _ hHeld (fun hHeld => ?_)
 clear hK K hb1
 refine tk 14 118 hHeld ?_
 simp only [sA, sB, sC]
 refine tk 15 133 hHeld ?_
 simp only [sA, sB, sC]
 refine tk 16 134 hHeld ?_
 simp only [sA, sB, sC]
 refine tk 19 137 hHeld ?_
 simp only [sA, sB, sC]
 refine wr1 20 fun K hK => ?_
 have xs := HM0.out.rn n.toNat hn16
 have xf := HM0.out.fz n.toNat
 have HM1 := Lib.hid (HM0.out.reg n.toNat hn16 (qEf op (m.r n.toNat)))
 go_simp
 refine hK.out _ _ (by show (World.setCell V0 ⟨g, n.toNat, none⟩ _).heap[W.heap.size]? = _; rw [Below.heap_setCell _ _ _ _ (by exact hgne)]; exact hHeld) (fun hHeld => ?_)
 clear hK K xs xf
 refine tk 21 138 hHeld ?_
 simp only [sA, sB, sC]
 refine tk 22 139 hHeld ?_
 simp only [sA, sB, sC]
 refine wr1 23 fun K hK => ?_
 have xs := HM1.out.cells.1
 have xf := HM1.out.fz 16
 go_simp
 refine hK.out _ _ (by show (World.setCell (V0.setCell ⟨g, n.toNat, none⟩ (.int .i64 (qEf op (m.r n.toNat)))) ⟨g, 16, none⟩ _).heap[W.heap.size]? = _; rw [Below.heap_setCell _ _ _ _ (by exact hgne)]; exact hHeld) (fun hHeld => ?_)
 clear hK K xs xf
 refine wpAnyH_done (by kernel_rfl) ?_ _
 refine NoPanic.normal ?_
 go_wp2
 go_ret
 refine ⟨by rw [HE.out]; rfl, ?_⟩
 rw [HMM.out]
 exact ((PP.of HW.out HB0.out HW.out.kz).reg n.toNat hn16 _).flag _
end Go.Proofs.YtfmljailbebfgaaGreatDoor.Si
