import Derived.Test.YtgjmbjahgcndnaaGreatDoorPut14
set_option maxHeartbeats 8000000
set_option maxRecDepth 100000
namespace Go.Proofs.YtgjmbjahgcndnaaGreatDoor.Si
open Go.RowKit Isa
theorem qLu (m : Ma) (k : Nat) : setR m k (m.r k) = m := by
 unfold setR
 have : (fun j => if j = k then m.r k else m.r j) = m.r := by
  funext j
  by_cases h : j = k
  ·rw [if_pos h, h]
  ·rw [if_neg h]
 rw [this]
theorem a32_id {m : Ma} {n : Int} (h0 : -2147483648 <= m.r n.toNat) (h1 : m.r n.toNat <= 2147483647) : a32 m n = m.r n.toNat := w32_id h0 h1
theorem qJS (m : Ma) (op n mm imm at' : Int) (h : op = 1 \/ (3 <= op /\ op <= 10)) (rn0 : -2147483648 <= m.r n.toNat) (rn1 : m.r n.toNat <= 2147483647) (rm0 : -2147483648 <= m.r mm.toNat) (rm1 : m.r mm.toNat <= 2147483647) : qAB m op n mm imm at' = setR m n.toNat (qKr op imm (m.r n.toNat) (m.r mm.toNat)) := by
 have e1 := a32_id (m := m) (n := n) rn0 rn1
 have e2 := a32_id (m := m) (n := mm) rm0 rm1
 obtain rfl | rfl | rfl | rfl | rfl | rfl | rfl | rfl | rfl : op = 1 \/ op = 3 \/ op = 4 \/ op = 5 \/ op = 6 \/ op = 7 \/ op = 8 \/ op = 9 \/ op = 10 := by omega
 ·exact (qLu m n.toNat).symm
 all_goals
  unfold qAB qKr
  simp [e1, e2]
theorem do_made (K g : Nat) (m : Ma) (gb bc : Nat) (s0 : Option Addr) (s1 s2 : Nat) (ta : Option Addr) (tc : Nat) (op n mm imm at' : Int) (W : World) (h : MR K g m gb bc (.slice s0 s1 s2) ta tc W) (hM : MOk m) (hr : ∀ k, in32 (m.r k)) (ha0 : 0 <= at') (ha1 : at' <= 1000000000000) (hi0 : -10000 <= imm) (hi1 : imm <= 10000) (hn0 : 0 <= n) (hn1 : n <= 15) (hm0 : 0 <= mm) (hm1 : mm <= 15) (hop : op = 1 \/ (3 <= op /\ op <= 10)) :
  Calls Tryz.prog 29 #[.pointer (some ⟨g, 0, none⟩), .agg #[.int .i64 op, .int .i64 n, .int .i64 mm, .int .i64 imm], .int .i64 at'] W fun e W' => e = .returned (.int .i64 (qBX m op n mm imm at')) /\ PP K K g gb bc (.slice s0 s1 s2) (qAB m op n mm imm at') W W' := by
 have hused := And.intro hM (And.intro ha0 (And.intro ha1 (And.intro hi0 (And.intro hi1 (And.intro hm0 hm1)))))
 clear hused
 obtain ⟨V, hV⟩ : ∃ V, V = W.alloc (.cells #[.int .i64 op, .int .i64 n, .int .i64 mm, .int .i64 imm] 71) := ⟨_, rfl⟩
 have hb : Below W.heap.size W V := by rw [hV]; exact qE _ _
 have kV : V.heap[W.heap.size]? = some (.cells #[.int .i64 op, .int .i64 n, .int .i64 mm, .int .i64 imm] 71 (0, 0)) := by rw [hV]; exact qK _ _ _
 have c0 := qA (i := 0) kV rfl
 have hgW : g < W.heap.size := h.lt
 have hgne : W.heap.size ≠ g := by omega
 have hn16 : n.toNat < 16 := by omega
 have hm16 : mm.toNat < 16 := by omega
 have hn2 : n < 16 := by omega
 have hm2 : mm < 16 := by omega
 obtain ⟨rn0, rn1⟩ := hr n.toNat
 obtain ⟨rm0, rm1⟩ := hr mm.toNat
 have HV := Lib.hid hV.symm
 have HK0 : Hid (V.drew.heap[W.heap.size]? = some (.cells #[.int .i64 op, .int .i64 n, .int .i64 mm, .int .i64 imm] 71 (0, 0))) := kV
 have HB0 := Lib.hid hb.drew
 have HM0 := Lib.hid (h.next hb.drew)
 have HW := Lib.hid h
 have HC : Hid (∀ X, Calls Tryz.prog 57 #[.agg #[.int .i64 op, .int .i64 n, .int .i64 mm, .int .i64 imm], .int .i64 (m.r n.toNat), .int .i64 (m.r mm.toNat)] X fun e w' => e = .returned (.int .i64 (qKr op imm (m.r n.toNat) (m.r mm.toNat))) /\ Below X.heap.size X w') := fun X => qFF op n mm imm _ _ X hop hi0 hi1 rn0 rn1 rm0 rm1
 have HE : Hid (qBX m op n mm imm at' = 0) := by
  unfold Hid qBX
  rw [if_neg (by omega)]
 have HMM : Hid (qAB m op n mm imm at' = setR m n.toNat (qKr op imm (m.r n.toNat) (m.r mm.toNat))) := qJS m op n mm imm at' hop rn0 rn1 rm0 rm1
 have ho1 : 1 <= op := by omega
 have ho2 : op <= 10 := by omega
 clear hV hb kV h hM hr
 go_enter Tryz.func29, Tryz.ntmps29
 go_upto_region 1 with fail
 rw [HV.out]
 clear HV
 go_upto_region 2 with fail
 refine wp_region_noPanic ?_
 refine wp_region_held_drew (S := fun w' => w'.heap[W.heap.size]? = some (.cells #[.int .i64 op, .int .i64 n, .int .i64 mm, .int .i64 imm] 71 (0, 0))) (by kernel_rfl) HK0.out (fun hHeld => ?_)
 generalize V.drew = V0 at *
 clear HK0 c0
 refine tk 0 9 hHeld ?_
 simp only [sA, sB, sC]
 refine tk 1 10 hHeld ?_
 simp only [sA, sB, sC]
 refine tk2 2 11 (v := ?_) ?_ hHeld ?_
 rotate_left
 ·intro w hSw
  have y := qA (i := 1) hSw rfl
  go_simp
  try with_reducible rfl
 simp only [sA, sB, sC]
 refine tk2 3 12 (v := ?_) ?_ hHeld ?_
 rotate_left
 ·intro w hSw
  have y0 := qA (i := 0) hSw rfl
  have y1 := qA (i := 1) hSw rfl
  have y2 := qA (i := 2) hSw rfl
  have y3 := qA (i := 3) hSw rfl
  go_simp
  try with_reducible rfl
 simp only [sA, sB, sC]
 refine tk 4 13 hHeld ?_
 simp only [sA, sB, sC]
 refine tk 5 14 hHeld ?_
 simp only [sA, sB, sC]
 refine tk2 6 15 (v := ?_) ?_ hHeld ?_
 rotate_left
 ·intro w hSw
  have y := qA (i := 1) hSw rfl
  go_simp
  try with_reducible rfl
 simp only [sA, sB, sC]
 refine tk 7 16 hHeld ?_
 simp only [sA, sB, sC]
 refine tk 8 17 hHeld ?_
 simp only [sA, sB, sC]
 refine tk 9 18 hHeld ?_
 simp only [sA, sB, sC]
 refine tk 11 20 hHeld ?_
 simp only [sA, sB, sC]
 refine tk 12 21 hHeld ?_
 simp only [sA, sB, sC]
 refine tk2 13 22 (v := ?_) ?_ hHeld ?_
 rotate_left
 ·intro w hSw
  have y := qA (i := 2) hSw rfl
  go_simp
  try with_reducible rfl
 simp only [sA, sB, sC]
 refine tk 14 23 hHeld ?_
 simp only [sA, sB, sC]
 refine tk 15 24 hHeld ?_
 simp only [sA, sB, sC]
 refine tk 16 25 hHeld ?_
 simp only [sA, sB, sC]
 refine tk 19 28 hHeld ?_
 simp only [sA, sB, sC]
 refine tk 20 29 hHeld ?_
 simp only [sA, sB, sC]
 refine wpAnyH_ready (rs := [10, 17]) (by kernel_rfl) (by simp) ?_
 refine AllReadyH.cons rfl (fun K hK => ?_) (AllReadyH.cons rfl (fun K hK => ?_) AllReadyH.nil)
 ·have xl := HM0.out.rn n.toNat hn16
  go_simp
  refine hK.out _ _ hHeld (fun hHeld => ?_)
  clear hK K xl
  refine wr1 17 fun K hK => ?_
  have xl := HM0.out.rn mm.toNat hm16
  go_simp
  refine hK.out _ _ hHeld (fun hHeld => ?_)
  clear hK K xl
  refine wr1 18 fun K hK => ?_
  go_simp
  refine (HC.out V0).mono ?_
  rintro e V1 ⟨rfl, hb1⟩
  have hH1 := (hb1.block _ (Array.getElem?_eq_some_iff.1 hHeld).1).trans hHeld
  have HM1 := Lib.hid (HM0.out.next hb1)
  have HB1 := Lib.hid (HB0.out.trans (hb1.mono HB0.out.size))
  refine hK.out _ _ hH1 (fun hHeld => ?_)
  clear hK K hb1 hH1 HM0 HB0
  refine tk 21 30 hHeld ?_
  simp only [sA, sB, sC]
  refine wr1 22 fun K hK => ?_
  have xs := HM1.out.rn n.toNat hn16
  have xf := HM1.out.fz n.toNat
  go_simp
  refine hK.out _ _ (by show (World.setCell V1 ⟨g, n.toNat, none⟩ _).heap[W.heap.size]? = _; rw [Below.heap_setCell _ _ _ _ (by exact hgne)]; exact hHeld) (fun hHeld => ?_)
  clear hK K xs xf
  refine wpAnyH_done (by kernel_rfl) ?_ _
  refine NoPanic.normal ?_
  go_wp2
  go_ret
  refine ⟨by rw [HE.out]; rfl, ?_⟩
  rw [HMM.out]
  exact (PP.of HW.out HB1.out HW.out.kz).reg n.toNat hn16 _
 ·have xl := HM0.out.rn mm.toNat hm16
  go_simp
  refine hK.out _ _ hHeld (fun hHeld => ?_)
  clear hK K xl
  refine wr1 10 fun K hK => ?_
  have xl := HM0.out.rn n.toNat hn16
  go_simp
  refine hK.out _ _ hHeld (fun hHeld => ?_)
  clear hK K xl
  refine wr1 18 fun K hK => ?_
  go_simp
  refine (HC.out V0).mono ?_
  rintro e V1 ⟨rfl, hb1⟩
  have hH1 := (hb1.block _ (Array.getElem?_eq_some_iff.1 hHeld).1).trans hHeld
  have HM1 := Lib.hid (HM0.out.next hb1)
  have HB1 := Lib.hid (HB0.out.trans (hb1.mono HB0.out.size))
  refine hK.out _ _ hH1 (fun hHeld => ?_)
  clear hK K hb1 hH1 HM0 HB0
  refine tk 21 30 hHeld ?_
  simp only [sA, sB, sC]
  refine wr1 22 fun K hK => ?_
  have xs := HM1.out.rn n.toNat hn16
  have xf := HM1.out.fz n.toNat
  go_simp
  refine hK.out _ _ (by show (World.setCell V1 ⟨g, n.toNat, none⟩ _).heap[W.heap.size]? = _; rw [Below.heap_setCell _ _ _ _ (by exact hgne)]; exact hHeld) (fun hHeld => ?_)
  clear hK K xs xf
  refine wpAnyH_done (by kernel_rfl) ?_ _
  refine NoPanic.normal ?_
  go_wp2
  go_ret
  refine ⟨by rw [HE.out]; rfl, ?_⟩
  rw [HMM.out]
  exact (PP.of HW.out HB1.out HW.out.kz).reg n.toNat hn16 _
theorem qAE {P : Program} {ops : Array Oper} {o : Oper} {a : Act} {w : World} {K : Act -> World -> Prop} {Q : Exit -> Act -> World -> Prop} {E : Prop} (hgd : o.guard = none) (d : Nat) (hd : o.dst = some d) (sl x : Operand) (t u : TypeId)
  (ho : o.op = .call { callee := .builtin .append, args := #[sl, x], argTypes := #[t, u] }) (v v2 : Value) (hs : a.eval sl = v) (hx : a.eval x = v2) {v' : Value} {w' : World}
  (hr : ∀ ty, (Builtin.append_ #[t, u] ty #[v, v2]).run P w = .ok v' w') (h : K ⟨a.tmps.setIfInBounds d v', a.defers⟩ w') : if Region.wanted o (yielded ops a.tmps) = true then Oper.wp P o a w K Q else E := by
 have hw : Region.wanted o (yielded ops a.tmps) = true := by simp [Region.wanted, hgd]
 rw [if_pos hw]
 have hr := hr o.type
 unfold Oper.wp execOp
 simp only [ho, resolve, invoke, builtin, Sem.run_bind, Sem.run_pure, Result.andThen_ok, List.map_toArray, List.map_cons, List.map_nil, hs, hx, hr]
 show K (a.put o.dst v') w'
 rw [hd]
 exact h
theorem do_told (K g : Nat) (m : Ma) (gb bc : Nat) (s0 : Option Addr) (s1 s2 : Nat) (ta : Option Addr) (tc : Nat) (op n mm imm at' : Int) (W : World) (h : MR K g m gb bc (.slice s0 s1 s2) ta tc W) (hM : MOk m) (hr : ∀ k, in32 (m.r k)) (ha0 : 0 <= at') (ha1 : at' <= 1000000000000) (hi0 : -10000 <= imm) (hi1 : imm <= 10000) (hn0 : 0 <= n) (hn1 : n <= 15) (hm0 : 0 <= mm) (hm1 : mm <= 15) (hop : op = 27) :
  Calls Tryz.prog 29 #[.pointer (some ⟨g, 0, none⟩), .agg #[.int .i64 op, .int .i64 n, .int .i64 mm, .int .i64 imm], .int .i64 at'] W fun e W' => e = .returned (.int .i64 (qBX m op n mm imm at')) /\ PP K K g gb bc (.slice s0 s1 s2) (qAB m op n mm imm at') W W' := by
 have hused := And.intro hM (And.intro ha0 (And.intro ha1 (And.intro hi0 (And.intro hi1 (And.intro hm0 hm1)))))
 clear hused
 obtain ⟨V, hV⟩ : ∃ V, V = W.alloc (.cells #[.int .i64 op, .int .i64 n, .int .i64 mm, .int .i64 imm] 71) := ⟨_, rfl⟩
 have hb : Below W.heap.size W V := by rw [hV]; exact qE _ _
 have kV : V.heap[W.heap.size]? = some (.cells #[.int .i64 op, .int .i64 n, .int .i64 mm, .int .i64 imm] 71 (0, 0)) := by rw [hV]; exact qK _ _ _
 have c0 := qA (i := 0) kV rfl
 have hgW : g < W.heap.size := h.lt
 have hgne : W.heap.size ≠ g := by omega
 have hn16 : n.toNat < 16 := by omega
 have hm16 : mm.toNat < 16 := by omega
 have hn2 : n < 16 := by omega
 have hm2 : mm < 16 := by omega
 obtain ⟨rn0, rn1⟩ := hr n.toNat
 obtain ⟨rm0, rm1⟩ := hr mm.toNat
 have HV := Lib.hid hV.symm
 have HK0 : Hid (V.drew.heap[W.heap.size]? = some (.cells #[.int .i64 op, .int .i64 n, .int .i64 mm, .int .i64 imm] 71 (0, 0))) := kV
 have HB0 := Lib.hid hb.drew
 have HM0 := Lib.hid (h.next hb.drew)
 have HW := Lib.hid h
 have HE : Hid (qBX m op n mm imm at' = 0) := by
  unfold Hid qBX
  rw [if_neg (by omega)]
 have HMM : Hid (qAB m op n mm imm at' = { m with told := m.told ++ [m.r 0] }) := by subst hop; rfl
 have htl := hM.tl
 have hdone : ∀ (ta' : Option Addr) (tc' : Nat) (V1 w2 : World), Below W.heap.size W V1 -> Kept K g gb V1 w2 -> MR K g { m with told := m.told ++ [m.r 0] } gb bc (.slice s0 s1 s2) ta' tc' w2 -> PP K K g gb bc (.slice s0 s1 s2) { m with told := m.told ++ [m.r 0] } W w2 := fun _ _ _ _ h1 h2 h3 => ⟨(Kept.of h1 h.kz).trans h2, _, _, h3⟩
 have HDONE := Lib.hid hdone
 clear hdone
 have ho1 : 27 <= op := by omega
 have ho2 : op <= 27 := by omega
 clear hop
 clear hV hb kV h hM hr
 go_enter Tryz.func29, Tryz.ntmps29
 go_upto_region 1 with fail
 rw [HV.out]
 clear HV
 go_upto_region 12 with fail
 refine wp_region_noPanic ?_
 refine wp_region_held_drew (S := fun w' => w'.heap[W.heap.size]? = some (.cells #[.int .i64 op, .int .i64 n, .int .i64 mm, .int .i64 imm] 71 (0, 0))) (by kernel_rfl) HK0.out (fun hHeld => ?_)
 generalize V.drew = V0 at *
 clear HK0 c0
 refine tk 0 76 hHeld ?_
 simp only [sA, sB, sC]
 refine tk 1 77 hHeld ?_
 simp only [sA, sB, sC]
 refine tk 2 78 hHeld ?_
 simp only [sA, sB, sC]
 refine tk 3 79 hHeld ?_
 simp only [sA, sB, sC]
 refine tk 5 81 hHeld ?_
 simp only [sA, sB, sC]
 refine tk 6 82 hHeld ?_
 simp only [sA, sB, sC]
 refine tk 7 83 hHeld ?_
 simp only [sA, sB, sC]
 refine tk 8 84 hHeld ?_
 simp only [sA, sB, sC]
 refine wpAnyH_ready (rs := [4, 9]) (by kernel_rfl) (by simp) ?_
 refine AllReadyH.cons rfl (fun K hK => ?_) (AllReadyH.cons rfl (fun K hK => ?_) AllReadyH.nil)
 ·have xl := HM0.out.cells.2.2.2.2.2.2.1
  go_simp
  refine hK.out _ _ hHeld (fun hHeld => ?_)
  clear hK K xl
  refine wr1 9 fun K hK => ?_
  have xl := HM0.out.rn 0 (by decide)
  go_simp
  refine hK.out _ _ hHeld (fun hHeld => ?_)
  clear hK K xl
  refine wr1 10 fun K hK => ?_
  go_simp
  generalize hWn : World.alloc V0 _ = V1
  have hb1 : Below V0.heap.size V0 V1 := by rw [<- hWn]; exact qE _ _
  have HN : Hid (V1.heap[V0.heap.size]? = some (.cells #[.int .i64 (m.r 0)] 3 (0, 0))) := by unfold Hid; rw [<- hWn]; exact qK V0 _ _
  have hH1 := (hb1.block _ (Array.getElem?_eq_some_iff.1 hHeld).1).trans hHeld
  have HM1 := Lib.hid (HM0.out.next hb1)
  have HB1 := Lib.hid (HB0.out.trans (hb1.mono HB0.out.size))
  refine hK.out _ _ hH1 (fun hHeld => ?_)
  clear hK K hb1 hH1 hWn
  refine wr1 11 fun K hK => ?_
  obtain ⟨ta', tc', V2, happ, hgr, x22, xf, hk2, hm2⟩ := HM1.out.app V0.heap.size (m.r 0) HN.out htl
  have HA := Lib.hid happ
  have HZ := Lib.hid (HDONE.out _ _ _ _ HB1.out hk2 hm2)
  have hH2 : V2.heap[W.heap.size]? = some (.cells #[.int .i64 op, .int .i64 n, .int .i64 mm, .int .i64 imm] 71 (0, 0)) := by
   rw [hgr.block _ (Array.getElem?_eq_some_iff.1 hHeld).1 (by
    rcases qEA HM1.out.tt hHeld (by decide) with e | e
    ·rw [e]; simp
    ·exact fun e' => e e'.symm)]
   exact hHeld
  clear happ hgr hk2 hm2
  refine qAE (by rfl) 87 (by rfl) _ _ _ _ (by rfl) _ _ (by rfl) (by rfl) HA.out ?_
  simp only [sA, sB, sC]
  refine hK.out _ _ hH2 (fun hHeld => ?_)
  clear hK K HA hH2
  refine tk 12 88 hHeld ?_
  simp only [sA, sB, sC]
  refine tk 13 89 hHeld ?_
  simp only [sA, sB, sC]
  refine wr1 14 fun K hK => ?_
  go_simp
  refine hK.out _ _ (by show (World.setCell V2 ⟨g, 22, none⟩ _).heap[W.heap.size]? = _; rw [Below.heap_setCell _ _ _ _ (by exact hgne)]; exact hHeld) (fun hHeld => ?_)
  clear hK K x22 xf
  refine wpAnyH_done (by kernel_rfl) ?_ _
  refine NoPanic.normal ?_
  go_wp2
  go_ret
  refine ⟨by rw [HE.out]; rfl, ?_⟩
  rw [HMM.out]
  exact HZ.out
 ·have xl := HM0.out.rn 0 (by decide)
  go_simp
  refine hK.out _ _ hHeld (fun hHeld => ?_)
  clear hK K xl
  refine wpAnyH_ready (rs := [4, 10]) (by kernel_rfl) (by simp) ?_
  refine AllReadyH.cons rfl (fun K hK => ?_) (AllReadyH.cons rfl (fun K hK => ?_) AllReadyH.nil)
  ·have xl := HM0.out.cells.2.2.2.2.2.2.1
   go_simp
   refine hK.out _ _ hHeld (fun hHeld => ?_)
   clear hK K xl
   refine wr1 10 fun K hK => ?_
   go_simp
   generalize hWn : World.alloc V0 _ = V1
   have hb1 : Below V0.heap.size V0 V1 := by rw [<- hWn]; exact qE _ _
   have HN : Hid (V1.heap[V0.heap.size]? = some (.cells #[.int .i64 (m.r 0)] 3 (0, 0))) := by unfold Hid; rw [<- hWn]; exact qK V0 _ _
   have hH1 := (hb1.block _ (Array.getElem?_eq_some_iff.1 hHeld).1).trans hHeld
   have HM1 := Lib.hid (HM0.out.next hb1)
   have HB1 := Lib.hid (HB0.out.trans (hb1.mono HB0.out.size))
   refine hK.out _ _ hH1 (fun hHeld => ?_)
   clear hK K hb1 hH1 hWn
   refine wr1 11 fun K hK => ?_
   obtain ⟨ta', tc', V2, happ, hgr, x22, xf, hk2, hm2⟩ := HM1.out.app V0.heap.size (m.r 0) HN.out htl
   have HA := Lib.hid happ
   have HZ := Lib.hid (HDONE.out _ _ _ _ HB1.out hk2 hm2)
   have hH2 : V2.heap[W.heap.size]? = some (.cells #[.int .i64 op, .int .i64 n, .int .i64 mm, .int .i64 imm] 71 (0, 0)) := by
    rw [hgr.block _ (Array.getElem?_eq_some_iff.1 hHeld).1 (by
     rcases qEA HM1.out.tt hHeld (by decide) with e | e
     ·rw [e]; simp
     ·exact fun e' => e e'.symm)]
    exact hHeld
   clear happ hgr hk2 hm2
   refine qAE (by rfl) 87 (by rfl) _ _ _ _ (by rfl) _ _ (by rfl) (by rfl) HA.out ?_
   simp only [sA, sB, sC]
   refine hK.out _ _ hH2 (fun hHeld => ?_)
   clear hK K HA hH2
   refine tk 12 88 hHeld ?_
   simp only [sA, sB, sC]
   refine tk 13 89 hHeld ?_
   simp only [sA, sB, sC]
   refine wr1 14 fun K hK => ?_
   go_simp
   refine hK.out _ _ (by show (World.setCell V2 ⟨g, 22, none⟩ _).heap[W.heap.size]? = _; rw [Below.heap_setCell _ _ _ _ (by exact hgne)]; exact hHeld) (fun hHeld => ?_)
   clear hK K x22 xf
   refine wpAnyH_done (by kernel_rfl) ?_ _
   refine NoPanic.normal ?_
   go_wp2
   go_ret
   refine ⟨by rw [HE.out]; rfl, ?_⟩
   rw [HMM.out]
   exact HZ.out
  ·go_simp
   generalize hWn : World.alloc V0 _ = V1
   have hb1 : Below V0.heap.size V0 V1 := by rw [<- hWn]; exact qE _ _
   have HN : Hid (V1.heap[V0.heap.size]? = some (.cells #[.int .i64 (m.r 0)] 3 (0, 0))) := by unfold Hid; rw [<- hWn]; exact qK V0 _ _
   have hH1 := (hb1.block _ (Array.getElem?_eq_some_iff.1 hHeld).1).trans hHeld
   have HM1 := Lib.hid (HM0.out.next hb1)
   have HB1 := Lib.hid (HB0.out.trans (hb1.mono HB0.out.size))
   refine hK.out _ _ hH1 (fun hHeld => ?_)
   clear hK K hb1 hH1 hWn
   refine wr1 4 fun K hK => ?_
   have xl := HM1.out.cells.2.2.2.2.2.2.1
   go_simp
   refine hK.out _ _ hHeld (fun hHeld => ?_)
   clear hK K xl
   refine wr1 11 fun K hK => ?_
   obtain ⟨ta', tc', V2, happ, hgr, x22, xf, hk2, hm2⟩ := HM1.out.app V0.heap.size (m.r 0) HN.out htl
   have HA := Lib.hid happ
   have HZ := Lib.hid (HDONE.out _ _ _ _ HB1.out hk2 hm2)
   have hH2 : V2.heap[W.heap.size]? = some (.cells #[.int .i64 op, .int .i64 n, .int .i64 mm, .int .i64 imm] 71 (0, 0)) := by
    rw [hgr.block _ (Array.getElem?_eq_some_iff.1 hHeld).1 (by
     rcases qEA HM1.out.tt hHeld (by decide) with e | e
     ·rw [e]; simp
     ·exact fun e' => e e'.symm)]
    exact hHeld
   clear happ hgr hk2 hm2
   refine qAE (by rfl) 87 (by rfl) _ _ _ _ (by rfl) _ _ (by rfl) (by rfl) HA.out ?_
   simp only [sA, sB, sC]
   refine hK.out _ _ hH2 (fun hHeld => ?_)
   clear hK K HA hH2
   refine tk 12 88 hHeld ?_
   simp only [sA, sB, sC]
   refine tk 13 89 hHeld ?_
   simp only [sA, sB, sC]
   refine wr1 14 fun K hK => ?_
   go_simp
   refine hK.out _ _ (by show (World.setCell V2 ⟨g, 22, none⟩ _).heap[W.heap.size]? = _; rw [Below.heap_setCell _ _ _ _ (by exact hgne)]; exact hHeld) (fun hHeld => ?_)
   clear hK K x22 xf
   refine wpAnyH_done (by kernel_rfl) ?_ _
   refine NoPanic.normal ?_
   go_wp2
   go_ret
   refine ⟨by rw [HE.out]; rfl, ?_⟩
   rw [HMM.out]
   exact HZ.out
end Go.Proofs.YtgjmbjahgcndnaaGreatDoor.Si
