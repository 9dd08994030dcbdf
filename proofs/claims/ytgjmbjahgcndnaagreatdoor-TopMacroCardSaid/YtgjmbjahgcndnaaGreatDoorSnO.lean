import Derived.Test.YtgjmbjahgcndnaaGreatDoorPut16
set_option maxHeartbeats 8000000
set_option maxRecDepth 100000
namespace Go.Proofs.YtgjmbjahgcndnaaGreatDoor.Si
open Go.RowKit Isa
theorem qBZ {V : World} {q : Nat} {a b c d : Value} (h : V.heap[q]? = some (.cells #[a, b, c, d] 71 (0, 0))) (x0 x1 x2 x3 : Value) :
  V.cell? ⟨q, 0, none⟩ = some a /\ V.cell? ⟨q, 1, none⟩ = some b /\ V.cell? ⟨q, 2, none⟩ = some c /\ V.cell? ⟨q, 3, none⟩ = some d /\ V.frozen? ⟨q, 0, none⟩ = false /\ V.frozen? ⟨q, 1, none⟩ = false /\ V.frozen? ⟨q, 2, none⟩ = false /\ V.frozen? ⟨q, 3, none⟩ = false /\
  ((((V.setCell ⟨q, 0, none⟩ x0).setCell ⟨q, 1, none⟩ x1).setCell ⟨q, 2, none⟩ x2).setCell ⟨q, 3, none⟩ x3).heap[q]? = some (.cells #[x0, x1, x2, x3] 71 (0, 0)) := by
 have h0 := _root_.Go.heap_setCell_same V q 0 _ 71 x0 h
 have h1 := _root_.Go.heap_setCell_same _ q 1 _ 71 x1 h0
 have h2 := _root_.Go.heap_setCell_same _ q 2 _ 71 x2 h1
 have h3 := _root_.Go.heap_setCell_same _ q 3 _ 71 x3 h2
 exact ⟨qA (i := 0) h rfl, qA (i := 1) h rfl, qA (i := 2) h rfl, qA (i := 3) h rfl, qD h, qD h, qD h, qD h, h3⟩
theorem qBa {B : Nat} {w V : World} (h : Below B w V) {q : Nat} (hq : B <= q) (x0 x1 x2 x3 : Value) : Below B w ((((V.setCell ⟨q, 0, none⟩ x0).setCell ⟨q, 1, none⟩ x1).setCell ⟨q, 2, none⟩ x2).setCell ⟨q, 3, none⟩ x3) := four h hq x0 x1 x2 x3
def qF5 (K g gb bc : Nat) (sv : Value) (m : Ma) (W : World) (e : Ending) (W' : World) : Prop :=
 e = .returned (.tuple #[.bool (if qAN m = 0 then qA3 m else false), .int .i64 (qAN m)]) /\ Kept K g gb W W' /\ (qAN m = 0 -> ∃ ta' tc', MR K g (qAU m) gb bc sv ta' tc' W')
theorem stepP {m : Ma} (he : qt m m.pc = 0) (hend : ¬ (fV m m.pc 0 = 27 /\ fV m m.pc 3 = 0)) (hl : qBo (fV m m.pc 0) = false) : qAN m = qBX { m with st := m.st + 1 } (fV m m.pc 0) (fV m m.pc 1) (fV m m.pc 2) (fV m m.pc 3) m.pc /\ qAU m = { qAB { m with st := m.st + 1 } (fV m m.pc 0) (fV m m.pc 1) (fV m m.pc 2) (fV m m.pc 3) m.pc with pc := m.pc + 2 } /\ qA3 m = false := by
 refine ⟨?_, ?_, ?_⟩
 ·unfold qAN; rw [if_neg (by simp [he]), if_neg hend, if_pos hl]
 ·unfold qAU; rw [if_neg hend, if_pos hl]
 ·unfold qA3; simp only [he, true_and, decide_eq_false_iff_not]; exact hend
theorem stepZ {m : Ma} (he : qt m m.pc = 0) (hend : fV m m.pc 0 = 27 /\ fV m m.pc 3 = 0) : qAN m = 0 /\ qAU m = { m with st := m.st + 1 } /\ qA3 m = true :=
 ⟨by unfold qAN; simp [he, hend], by unfold qAU; rw [if_pos hend], by unfold qA3; simp [he, hend]⟩
theorem qEe {K g : Nat} {m : Ma} {gb bc : Nat} {sv : Value} {ta : Option Addr} {tc : Nat} {W : World} (h : MR K g m gb bc sv ta tc W) {q : Nat} {c : Array Value} (hq : W.heap[q]? = some (.cells c 71 (0, 0))) : q ≠ g := by
 intro e
 have h1 := h.b1
 rw [<- e, hq] at h1
 injection h1 with h1
 injection h1 with _ h2
 exact absurd h2 (by decide)
theorem step_no (K g : Nat) (m : Ma) (gb bc : Nat) (s0 : Option Addr) (s1 s2 : Nat) (ta : Option Addr) (tc : Nat) (k : Nat) (W : World) (h : MR K g m gb bc (.slice s0 s1 s2) ta tc W) (hR : Runs m k) (hk : k <= 100000) (hbc : m.by'.length <= bc) (he : qt m m.pc ≠ 0) :
  Calls Tryz.prog 16 #[.pointer (some ⟨g, 0, none⟩)] W (qF5 K g gb bc (.slice s0 s1 s2) m W) := by
 have hused := hbc
 clear hused
 have hM := hR.mok hk
 obtain ⟨hpc0, hpc1⟩ := hR.pc
 have hst0 := hR.st0
 have hst1 := hR.st1
 have HI : Hid (∀ X, MR K g m gb bc (.slice s0 s1 s2) ta tc X -> Below W.heap.size W X -> Calls Tryz.prog 26 #[.agg #[.int .i64 m.base, .slice (some ⟨gb, 0, none⟩) m.by'.length bc, .slice s0 s1 s2], .int .i64 m.pc] X fun e w' => e = .returned (.tuple #[.agg #[.int .i64 (fV m m.pc 0), .int .i64 (fV m m.pc 1), .int .i64 (fV m m.pc 2), .int .i64 (fV m m.pc 3)], .int .i64 (qt m m.pc)]) /\ Below X.heap.size X w') := fun X hX _ => qDp m (some ⟨gb, 0, none⟩) bc (.slice s0 s1 s2) m.pc X hX.brd hX.la hM.b0 hM.b1 (by have := hM.bl; omega) (by omega) (by omega)
 have HKN : Hid (∀ X, Below W.heap.size W X -> Kept K g gb W X) := fun X hX => h.kn hX
 have HLE := Lib.hid qDJ
 have HW := Lib.hid h
 have hH0 := h.next (W' := W.drew) (Below.refl _ _).drew
 have HB0 := Lib.hid ((Below.refl W.heap.size W).drew)
 have HE : Hid (qAN m = qt m m.pc) := by unfold Hid qAN; rw [if_pos he]
 have HD : Hid ((if qAN m = 0 then qA3 m else false) = false) := by unfold Hid; rw [if_neg (by rw [HE.out]; exact he)]
 have heb : (qt m m.pc != 0) = true := by simpa using he
 have HN : Hid (qt m m.pc ≠ 0) := he
 clear h hR hM HLE he
 generalize qt m m.pc = ee at *
 generalize fV m m.pc 0 = d0 at *
 generalize fV m m.pc 1 = d1 at *
 generalize fV m m.pc 2 = d2 at *
 generalize fV m m.pc 3 = d3 at *
 go_enter Tryz.func16, Tryz.ntmps16
 go_upto_region 1 with fail
 refine wp_region_noPanic ?_
 refine wp_region_held_drew (S := fun w' => MR K g m gb bc (.slice s0 s1 s2) ta tc w') (by kernel_rfl) hH0 (fun hHeld => ?_)
 clear hH0
 generalize W.drew = V0 at *
 refine tk 0 7 hHeld ?_
 simp only [sA, sB, sC]
 refine tk 1 8 hHeld ?_
 simp only [sA, sB, sC]
 refine tk 2 9 hHeld ?_
 simp only [sA, sB, sC]
 refine tk2 3 10 (v := ?_) ?_ hHeld ?_
 rotate_left
 ·intro w hSw
  have y0 := hSw.cells.2.2.2.1
  have y1 := hSw.cells.2.2.2.2.1
  have y2 := hSw.cells.2.2.2.2.2.1
  go_simp
  try with_reducible rfl
 simp only [sA, sB, sC]
 refine tk 4 11 hHeld ?_
 simp only [sA, sB, sC]
 refine tk 5 12 hHeld ?_
 simp only [sA, sB, sC]
 refine tk 6 13 hHeld ?_
 simp only [sA, sB, sC]
 refine tk2 7 14 (v := ?_) ?_ hHeld ?_
 rotate_left
 ·intro w hSw
  have y := hSw.cells.2.1
  go_simp
  try with_reducible rfl
 simp only [sA, sB, sC]
 refine wpAnyH_ready (rs := [8, 12]) (by kernel_rfl) (by simp) ?_
 refine AllReadyH.cons rfl (fun K hK => ?_) (AllReadyH.cons rfl (fun K hK => ?_) AllReadyH.nil)
 ·go_simp
  refine (HI.out V0 hHeld HB0.out).mono ?_
  rintro e V1 ⟨rfl, hb⟩
  have hH1 := hHeld.next hb
  have HB1 := Lib.hid (HB0.out.trans (hb.mono HB0.out.size))
  refine hK.out _ _ hH1 (fun hHeld => ?_)
  clear hK K hb hH1 HB0
  refine tk 9 6 hHeld ?_
  simp only [sA, sB, sC]
  refine tk 10 16 hHeld ?_
  simp only [sA, sB, sC]
  refine tk 11 17 hHeld ?_
  simp only [sA, sB, sC]
  refine wr1 12 fun K hK => ?_
  go_simp
  generalize hWn : World.alloc V1 _ = V2
  have hb : Below V1.heap.size V1 V2 := by rw [<- hWn]; exact qE _ _
  have HQ2 : Hid (V2.heap[V1.heap.size]? = some (.cells #[.int .i64 0, .int .i64 0, .int .i64 0, .int .i64 0] 71 (0, 0))) := by unfold Hid; rw [<- hWn]; exact qK V1 _ _
  have hH1 := hHeld.next hb
  have HB2 := Lib.hid (HB1.out.trans (hb.mono HB1.out.size))
  have HQL := Lib.hid HB1.out.size
  refine hK.out _ _ hH1 (fun hHeld => ?_)
  clear hK K hb hH1 hWn HB1
  refine wr1 13 fun K hK => ?_
  obtain ⟨x0, x1, x2, x3, f0, f1, f2, f3, hq⟩ := qBZ HQ2.out (.int .i64 d0) (.int .i64 d1) (.int .i64 d2) (.int .i64 d3)
  have HX := Lib.hid hq
  have hb := qBa (Below.refl W.heap.size V2) HQL.out (.int .i64 d0) (.int .i64 d1) (.int .i64 d2) (.int .i64 d3)
  have HBX := Lib.hid (HB2.out.trans hb)
  have hMX := HW.out.next HBX.out
  clear hq hb
  go_simp
  refine hK.out _ _ hMX (fun hHeld => ?_)
  clear hK K hMX x0 x1 x2 x3 f0 f1 f2 f3 HB2 HQ2
  generalize (((World.setCell V2 ⟨V1.heap.size, 0, none⟩ (.int .i64 d0)).setCell ⟨V1.heap.size, 1, none⟩ (.int .i64 d1)).setCell ⟨V1.heap.size, 2, none⟩ (.int .i64 d2)).setCell ⟨V1.heap.size, 3, none⟩ (.int .i64 d3) = X at *
  generalize V1.heap.size = q at *
  refine tk 14 5 hHeld ?_
  simp only [sA, sB, sC]
  refine wpAnyH_done (by kernel_rfl) ?_ _
  refine NoPanic.normal ?_
  go_wp2
  go_ret2
  refine ⟨by rw [HD.out, HE.out]; rfl, HKN.out _ HBX.out, fun h0 => absurd (HE.out.symm.trans h0) HN.out⟩
 ·go_simp
  generalize hWn : World.alloc V0 _ = V1
  have hb : Below V0.heap.size V0 V1 := by rw [<- hWn]; exact qE _ _
  have HQ1 : Hid (V1.heap[V0.heap.size]? = some (.cells #[.int .i64 0, .int .i64 0, .int .i64 0, .int .i64 0] 71 (0, 0))) := by unfold Hid; rw [<- hWn]; exact qK V0 _ _
  have hH1 := hHeld.next hb
  have HB1 := Lib.hid (HB0.out.trans (hb.mono HB0.out.size))
  have HQL := Lib.hid HB0.out.size
  refine hK.out _ _ hH1 (fun hHeld => ?_)
  clear hK K hb hH1 hWn HB0
  refine wr1 8 fun K hK => ?_
  go_simp
  refine (HI.out V1 hHeld HB1.out).mono ?_
  rintro e V2 ⟨rfl, hb⟩
  have hH1 := hHeld.next hb
  have HB2 := Lib.hid (HB1.out.trans (hb.mono HB1.out.size))
  have HQ2 := Lib.hid ((hb.block _ (Array.getElem?_eq_some_iff.1 HQ1.out).1).trans HQ1.out)
  refine hK.out _ _ hH1 (fun hHeld => ?_)
  clear hK K hb hH1 HB1 HQ1
  refine tk 9 6 hHeld ?_
  simp only [sA, sB, sC]
  refine tk 10 16 hHeld ?_
  simp only [sA, sB, sC]
  refine tk 11 17 hHeld ?_
  simp only [sA, sB, sC]
  refine wr1 13 fun K hK => ?_
  obtain ⟨x0, x1, x2, x3, f0, f1, f2, f3, hq⟩ := qBZ HQ2.out (.int .i64 d0) (.int .i64 d1) (.int .i64 d2) (.int .i64 d3)
  have HX := Lib.hid hq
  have hb := qBa (Below.refl W.heap.size V2) HQL.out (.int .i64 d0) (.int .i64 d1) (.int .i64 d2) (.int .i64 d3)
  have HBX := Lib.hid (HB2.out.trans hb)
  have hMX := HW.out.next HBX.out
  clear hq hb
  go_simp
  refine hK.out _ _ hMX (fun hHeld => ?_)
  clear hK K hMX x0 x1 x2 x3 f0 f1 f2 f3 HB2 HQ2
  generalize (((World.setCell V2 ⟨V0.heap.size, 0, none⟩ (.int .i64 d0)).setCell ⟨V0.heap.size, 1, none⟩ (.int .i64 d1)).setCell ⟨V0.heap.size, 2, none⟩ (.int .i64 d2)).setCell ⟨V0.heap.size, 3, none⟩ (.int .i64 d3) = X at *
  generalize V0.heap.size = q at *
  refine tk 14 5 hHeld ?_
  simp only [sA, sB, sC]
  refine wpAnyH_done (by kernel_rfl) ?_ _
  refine NoPanic.normal ?_
  go_wp2
  go_ret2
  refine ⟨by rw [HD.out, HE.out]; rfl, HKN.out _ HBX.out, fun h0 => absurd (HE.out.symm.trans h0) HN.out⟩
theorem step_fin (K g : Nat) (m : Ma) (gb bc : Nat) (s0 : Option Addr) (s1 s2 : Nat) (ta : Option Addr) (tc : Nat) (k : Nat) (W : World) (h : MR K g m gb bc (.slice s0 s1 s2) ta tc W) (hR : Runs m k) (hk : k <= 100000) (hbc : m.by'.length <= bc) (he : qt m m.pc = 0) (hend : fV m m.pc 0 = 27 /\ fV m m.pc 3 = 0) :
  Calls Tryz.prog 16 #[.pointer (some ⟨g, 0, none⟩)] W (qF5 K g gb bc (.slice s0 s1 s2) m W) := by
 have hused := hbc
 clear hused
 have hM := hR.mok hk
 obtain ⟨hpc0, hpc1⟩ := hR.pc
 have hst0 := hR.st0
 have hst1 := hR.st1
 have HI : Hid (∀ X, MR K g m gb bc (.slice s0 s1 s2) ta tc X -> Below W.heap.size W X -> Calls Tryz.prog 26 #[.agg #[.int .i64 m.base, .slice (some ⟨gb, 0, none⟩) m.by'.length bc, .slice s0 s1 s2], .int .i64 m.pc] X fun e w' => e = .returned (.tuple #[.agg #[.int .i64 (fV m m.pc 0), .int .i64 (fV m m.pc 1), .int .i64 (fV m m.pc 2), .int .i64 (fV m m.pc 3)], .int .i64 (qt m m.pc)]) /\ Below X.heap.size X w') := fun X hX _ => qDp m (some ⟨gb, 0, none⟩) bc (.slice s0 s1 s2) m.pc X hX.brd hX.la hM.b0 hM.b1 (by have := hM.bl; omega) (by omega) (by omega)
 have HKN : Hid (∀ X, Below W.heap.size W X -> Kept K g gb W X) := fun X hX => h.kn hX
 have HLE := Lib.hid qDJ
 have HW := Lib.hid h
 have hH0 := h.next (W' := W.drew) (Below.refl _ _).drew
 have HB0 := Lib.hid ((Below.refl W.heap.size W).drew)
 obtain ⟨s1', s2', s3'⟩ := stepZ he hend
 have HE := Lib.hid s1'
 have HMM := Lib.hid s2'
 have HD : Hid ((if qAN m = 0 then qA3 m else false) = true) := by unfold Hid; rw [if_pos s1', s3']
 rw [he] at HI
 have ho1 : 27 <= fV m m.pc 0 := by omega
 have ho2 : fV m m.pc 0 <= 27 := by omega
 have ho3 : 0 <= fV m m.pc 3 := by omega
 have ho4 : fV m m.pc 3 <= 0 := by omega
 clear h hR hM HLE he hend s1' s2' s3'
 generalize fV m m.pc 0 = d0 at *
 generalize fV m m.pc 1 = d1 at *
 generalize fV m m.pc 2 = d2 at *
 generalize fV m m.pc 3 = d3 at *
 go_enter Tryz.func16, Tryz.ntmps16
 go_upto_region 1 with fail
 refine wp_region_noPanic ?_
 refine wp_region_held_drew (S := fun w' => MR K g m gb bc (.slice s0 s1 s2) ta tc w') (by kernel_rfl) hH0 (fun hHeld => ?_)
 clear hH0
 generalize W.drew = V0 at *
 refine tk 0 7 hHeld ?_
 simp only [sA, sB, sC]
 refine tk 1 8 hHeld ?_
 simp only [sA, sB, sC]
 refine tk 2 9 hHeld ?_
 simp only [sA, sB, sC]
 refine tk2 3 10 (v := ?_) ?_ hHeld ?_
 rotate_left
 ·intro w hSw
  have y0 := hSw.cells.2.2.2.1
  have y1 := hSw.cells.2.2.2.2.1
  have y2 := hSw.cells.2.2.2.2.2.1
  go_simp
  try with_reducible rfl
 simp only [sA, sB, sC]
 refine tk 4 11 hHeld ?_
 simp only [sA, sB, sC]
 refine tk 5 12 hHeld ?_
 simp only [sA, sB, sC]
 refine tk 6 13 hHeld ?_
 simp only [sA, sB, sC]
 refine tk2 7 14 (v := ?_) ?_ hHeld ?_
 rotate_left
 ·intro w hSw
  have y := hSw.cells.2.1
  go_simp
  try with_reducible rfl
 simp only [sA, sB, sC]
 refine wpAnyH_ready (rs := [8, 12]) (by kernel_rfl) (by simp) ?_
 refine AllReadyH.cons rfl (fun K hK => ?_) (AllReadyH.cons rfl (fun K hK => ?_) AllReadyH.nil)
 ·go_simp
  refine (HI.out V0 hHeld HB0.out).mono ?_
  rintro e V1 ⟨rfl, hb⟩
  have hH1 := hHeld.next hb
  have HB1 := Lib.hid (HB0.out.trans (hb.mono HB0.out.size))
  refine hK.out _ _ hH1 (fun hHeld => ?_)
  clear hK K hb hH1 HB0
  refine tk 9 6 hHeld ?_
  simp only [sA, sB, sC]
  refine tk 10 16 hHeld ?_
  simp only [sA, sB, sC]
  refine tk 11 17 hHeld ?_
  simp only [sA, sB, sC]
  refine wr1 12 fun K hK => ?_
  go_simp
  generalize hWn : World.alloc V1 _ = V2
  have hb : Below V1.heap.size V1 V2 := by rw [<- hWn]; exact qE _ _
  have HQ2 : Hid (V2.heap[V1.heap.size]? = some (.cells #[.int .i64 0, .int .i64 0, .int .i64 0, .int .i64 0] 71 (0, 0))) := by unfold Hid; rw [<- hWn]; exact qK V1 _ _
  have hH1 := hHeld.next hb
  have HB2 := Lib.hid (HB1.out.trans (hb.mono HB1.out.size))
  have HQL := Lib.hid HB1.out.size
  refine hK.out _ _ hH1 (fun hHeld => ?_)
  clear hK K hb hH1 hWn HB1
  refine wr1 13 fun K hK => ?_
  obtain ⟨x0, x1, x2, x3, f0, f1, f2, f3, hq⟩ := qBZ HQ2.out (.int .i64 d0) (.int .i64 d1) (.int .i64 d2) (.int .i64 d3)
  have HX := Lib.hid hq
  have hb := qBa (Below.refl W.heap.size V2) HQL.out (.int .i64 d0) (.int .i64 d1) (.int .i64 d2) (.int .i64 d3)
  have HBX := Lib.hid (HB2.out.trans hb)
  have hMX := HW.out.next HBX.out
  clear hq hb
  go_simp
  refine hK.out _ _ hMX (fun hHeld => ?_)
  clear hK K hMX x0 x1 x2 x3 f0 f1 f2 f3 HB2 HQ2
  generalize (((World.setCell V2 ⟨V1.heap.size, 0, none⟩ (.int .i64 d0)).setCell ⟨V1.heap.size, 1, none⟩ (.int .i64 d1)).setCell ⟨V1.heap.size, 2, none⟩ (.int .i64 d2)).setCell ⟨V1.heap.size, 3, none⟩ (.int .i64 d3) = X at *
  generalize V1.heap.size = q at *
  refine tk 14 5 hHeld ?_
  simp only [sA, sB, sC]
  refine wpAnyH_done (by kernel_rfl) ?_ _
  refine NoPanic.normal ?_
  have hqg := qEe hHeld HX.out
  have hgq : g ≠ q := fun e => hqg e.symm
  have y0 := qA (i := 0) HX.out rfl
  have y1 := qA (i := 1) HX.out rfl
  have y2 := qA (i := 2) HX.out rfl
  have y3 := qA (i := 3) HX.out rfl
  have x23 := hHeld.cells.2.2.2.2.2.2.2
  have xf := hHeld.fz 23
  have HMX := Lib.hid (hHeld.setst (m.st + 1))
  clear hHeld
  go_wp2
  go_ret2
  exact ⟨by rw [HD.out, HE.out]; rfl, (HKN.out _ HBX.out).trans (Kept.cell ⟨g, 23, none⟩ _), fun _ => ⟨_, _, by rw [HMM.out]; exact HMX.out⟩⟩
 ·go_simp
  generalize hWn : World.alloc V0 _ = V1
  have hb : Below V0.heap.size V0 V1 := by rw [<- hWn]; exact qE _ _
  have HQ1 : Hid (V1.heap[V0.heap.size]? = some (.cells #[.int .i64 0, .int .i64 0, .int .i64 0, .int .i64 0] 71 (0, 0))) := by unfold Hid; rw [<- hWn]; exact qK V0 _ _
  have hH1 := hHeld.next hb
  have HB1 := Lib.hid (HB0.out.trans (hb.mono HB0.out.size))
  have HQL := Lib.hid HB0.out.size
  refine hK.out _ _ hH1 (fun hHeld => ?_)
  clear hK K hb hH1 hWn HB0
  refine wr1 8 fun K hK => ?_
  go_simp
  refine (HI.out V1 hHeld HB1.out).mono ?_
  rintro e V2 ⟨rfl, hb⟩
  have hH1 := hHeld.next hb
  have HB2 := Lib.hid (HB1.out.trans (hb.mono HB1.out.size))
  have HQ2 := Lib.hid ((hb.block _ (Array.getElem?_eq_some_iff.1 HQ1.out).1).trans HQ1.out)
  refine hK.out _ _ hH1 (fun hHeld => ?_)
  clear hK K hb hH1 HB1 HQ1
  refine tk 9 6 hHeld ?_
  simp only [sA, sB, sC]
  refine tk 10 16 hHeld ?_
  simp only [sA, sB, sC]
  refine tk 11 17 hHeld ?_
  simp only [sA, sB, sC]
  refine wr1 13 fun K hK => ?_
  obtain ⟨x0, x1, x2, x3, f0, f1, f2, f3, hq⟩ := qBZ HQ2.out (.int .i64 d0) (.int .i64 d1) (.int .i64 d2) (.int .i64 d3)
  have HX := Lib.hid hq
  have hb := qBa (Below.refl W.heap.size V2) HQL.out (.int .i64 d0) (.int .i64 d1) (.int .i64 d2) (.int .i64 d3)
  have HBX := Lib.hid (HB2.out.trans hb)
  have hMX := HW.out.next HBX.out
  clear hq hb
  go_simp
  refine hK.out _ _ hMX (fun hHeld => ?_)
  clear hK K hMX x0 x1 x2 x3 f0 f1 f2 f3 HB2 HQ2
  generalize (((World.setCell V2 ⟨V0.heap.size, 0, none⟩ (.int .i64 d0)).setCell ⟨V0.heap.size, 1, none⟩ (.int .i64 d1)).setCell ⟨V0.heap.size, 2, none⟩ (.int .i64 d2)).setCell ⟨V0.heap.size, 3, none⟩ (.int .i64 d3) = X at *
  generalize V0.heap.size = q at *
  refine tk 14 5 hHeld ?_
  simp only [sA, sB, sC]
  refine wpAnyH_done (by kernel_rfl) ?_ _
  refine NoPanic.normal ?_
  have hqg := qEe hHeld HX.out
  have hgq : g ≠ q := fun e => hqg e.symm
  have y0 := qA (i := 0) HX.out rfl
  have y1 := qA (i := 1) HX.out rfl
  have y2 := qA (i := 2) HX.out rfl
  have y3 := qA (i := 3) HX.out rfl
  have x23 := hHeld.cells.2.2.2.2.2.2.2
  have xf := hHeld.fz 23
  have HMX := Lib.hid (hHeld.setst (m.st + 1))
  clear hHeld
  go_wp2
  go_ret2
  exact ⟨by rw [HD.out, HE.out]; rfl, (HKN.out _ HBX.out).trans (Kept.cell ⟨g, 23, none⟩ _), fun _ => ⟨_, _, by rw [HMM.out]; exact HMX.out⟩⟩
theorem step_pln (K g : Nat) (m : Ma) (gb bc : Nat) (s0 : Option Addr) (s1 s2 : Nat) (ta : Option Addr) (tc : Nat) (k : Nat) (W : World) (h : MR K g m gb bc (.slice s0 s1 s2) ta tc W) (hR : Runs m k) (hk : k <= 100000) (hbc : m.by'.length <= bc) (he : qt m m.pc = 0) (hend : ¬ (fV m m.pc 0 = 27 /\ fV m m.pc 3 = 0)) (hl : qBo (fV m m.pc 0) = false) (hres : Res (fV m m.pc 0)) :
  Calls Tryz.prog 16 #[.pointer (some ⟨g, 0, none⟩)] W (qF5 K g gb bc (.slice s0 s1 s2) m W) := by
 have hused := hbc
 clear hused
 have hM := hR.mok hk
 obtain ⟨hpc0, hpc1⟩ := hR.pc
 have hst0 := hR.st0
 have hst1 := hR.st1
 have HI : Hid (∀ X, MR K g m gb bc (.slice s0 s1 s2) ta tc X -> Below W.heap.size W X -> Calls Tryz.prog 26 #[.agg #[.int .i64 m.base, .slice (some ⟨gb, 0, none⟩) m.by'.length bc, .slice s0 s1 s2], .int .i64 m.pc] X fun e w' => e = .returned (.tuple #[.agg #[.int .i64 (fV m m.pc 0), .int .i64 (fV m m.pc 1), .int .i64 (fV m m.pc 2), .int .i64 (fV m m.pc 3)], .int .i64 (qt m m.pc)]) /\ Below X.heap.size X w') := fun X hX _ => qDp m (some ⟨gb, 0, none⟩) bc (.slice s0 s1 s2) m.pc X hX.brd hX.la hM.b0 hM.b1 (by have := hM.bl; omega) (by omega) (by omega)
 have HKN : Hid (∀ X, Below W.heap.size W X -> Kept K g gb W X) := fun X hX => h.kn hX
 have HLE := Lib.hid qDJ
 have HW := Lib.hid h
 have hH0 := h.next (W' := W.drew) (Below.refl _ _).drew
 have HB0 := Lib.hid ((Below.refl W.heap.size W).drew)
 obtain ⟨s1', s2', s3'⟩ := stepP he hend hl
 obtain ⟨b1, b2, b3, b4, b5, b6⟩ := fV_bd m m.pc
 have hnear := qCf hR he
 have hIn := fetch_in hM.b0 he
 have hop : fV m m.pc 0 = 1 \/ (3 <= fV m m.pc 0 /\ fV m m.pc 0 <= 16) \/ (23 <= fV m m.pc 0 /\ fV m m.pc 0 <= 27) := by
  unfold qBo at hl
  simp at hl
  omega
 have HDO : Hid (∀ X, MR K g { m with st := m.st + 1 } gb bc (.slice s0 s1 s2) ta tc X -> Calls Tryz.prog 29 #[.pointer (some ⟨g, 0, none⟩), .agg #[.int .i64 (fV m m.pc 0), .int .i64 (fV m m.pc 1), .int .i64 (fV m m.pc 2), .int .i64 (fV m m.pc 3)], .int .i64 m.pc] X fun e W' => e = .returned (.int .i64 (qAN m)) /\ PP K K g gb bc (.slice s0 s1 s2) (qAB { m with st := m.st + 1 } (fV m m.pc 0) (fV m m.pc 1) (fV m m.pc 2) (fV m m.pc 3) m.pc) X W') := fun X hX => by
  rw [s1']
  exact qLq K g { m with st := m.st + 1 } gb bc s0 s1 s2 ta tc _ _ _ _ m.pc X hX ⟨hM.b0, hM.b1, hM.bl, hM.tl⟩ hR.reg hbc hnear.1 (by omega) b5 b6 b1 b2 b3 b4 hop hres
 clear hres
 have HPC : Hid ((qAB { m with st := m.st + 1 } (fV m m.pc 0) (fV m m.pc 1) (fV m m.pc 2) (fV m m.pc 3) m.pc).pc = m.pc) := (qCa { m with st := m.st + 1 } (fV m m.pc 0) (fV m m.pc 1) (fV m m.pc 2) (fV m m.pc 3) m.pc).2.2.1
 have HMM := Lib.hid s2'
 have HBH : Hid (∀ X, Calls Tryz.prog 30 #[.int .i64 m.pc, .int .i64 2] X fun e w' => e = .returned (.int .i64 (m.pc + 2)) /\ X = w') := fun X => qBn m.pc 2 X (by omega) (by omega)
 have HD : Hid ((if qAN m = 0 then qA3 m else false) = false) := by unfold Hid; rw [s3']; simp
 have HL : Hid (∀ X, Calls Tryz.prog 27 #[.int .i64 (fV m m.pc 0)] X fun e w' => e = .returned (.bool false) /\ X = w') := fun X => by
  have := HLE.out (fV m m.pc 0) X
  rw [hl] at this
  exact this
 rw [he] at HI
 have HCND : Hid (((fV m m.pc 0 == 27) = false) \/ ((fV m m.pc 0 == 27) = true /\ (fV m m.pc 3 == 0) = false)) := by
  unfold Hid
  by_cases h27 : fV m m.pc 0 = 27
  ·right
   simp [h27]
   exact fun h3 => hend ⟨h27, h3⟩
  ·left
   simpa using h27
 unfold qF5
 clear h hR hM HLE he hl s1' s2' s3' b1 b2 b3 b4 b5 b6 hnear hop hend hIn
 generalize (if qAN m = 0 then qA3 m else false) = DD at *
 generalize qAN m = EE at *
 generalize qAU m = SM at *
 generalize qAB { m with st := m.st + 1 } (fV m m.pc 0) (fV m m.pc 1) (fV m m.pc 2) (fV m m.pc 3) m.pc = PM at *
 generalize fV m m.pc 0 = d0 at *
 generalize fV m m.pc 1 = d1 at *
 generalize fV m m.pc 2 = d2 at *
 generalize fV m m.pc 3 = d3 at *
 obtain hcn | hcn := HCND.out
 ·clear HCND
  go_enter Tryz.func16, Tryz.ntmps16
  go_upto_region 1 with fail
  refine wp_region_noPanic ?_
  refine wp_region_held_drew (S := fun w' => MR K g m gb bc (.slice s0 s1 s2) ta tc w') (by kernel_rfl) hH0 (fun hHeld => ?_)
  clear hH0
  generalize W.drew = V0 at *
  refine tk 0 7 hHeld ?_
  simp only [sA, sB, sC]
  refine tk 1 8 hHeld ?_
  simp only [sA, sB, sC]
  refine tk 2 9 hHeld ?_
  simp only [sA, sB, sC]
  refine tk2 3 10 (v := ?_) ?_ hHeld ?_
  rotate_left
  ·intro w hSw
   have y0 := hSw.cells.2.2.2.1
   have y1 := hSw.cells.2.2.2.2.1
   have y2 := hSw.cells.2.2.2.2.2.1
   go_simp
   try with_reducible rfl
  simp only [sA, sB, sC]
  refine tk 4 11 hHeld ?_
  simp only [sA, sB, sC]
  refine tk 5 12 hHeld ?_
  simp only [sA, sB, sC]
  refine tk 6 13 hHeld ?_
  simp only [sA, sB, sC]
  refine tk2 7 14 (v := ?_) ?_ hHeld ?_
  rotate_left
  ·intro w hSw
   have y := hSw.cells.2.1
   go_simp
   try with_reducible rfl
  simp only [sA, sB, sC]
  refine wpAnyH_ready (rs := [8, 12]) (by kernel_rfl) (by simp) ?_
  refine AllReadyH.cons rfl (fun K hK => ?_) (AllReadyH.cons rfl (fun K hK => ?_) AllReadyH.nil)
  ·go_simp
   refine (HI.out V0 hHeld HB0.out).mono ?_
   rintro e V1 ⟨rfl, hb⟩
   have hH1 := hHeld.next hb
   have HB1 := Lib.hid (HB0.out.trans (hb.mono HB0.out.size))
   refine hK.out _ _ hH1 (fun hHeld => ?_)
   clear hK K hb hH1 HB0
   refine tk 9 6 hHeld ?_
   simp only [sA, sB, sC]
   refine tk 10 16 hHeld ?_
   simp only [sA, sB, sC]
   refine tk 11 17 hHeld ?_
   simp only [sA, sB, sC]
   refine wr1 12 fun K hK => ?_
   go_simp
   generalize hWn : World.alloc V1 _ = V2
   have hb : Below V1.heap.size V1 V2 := by rw [<- hWn]; exact qE _ _
   have HQ2 : Hid (V2.heap[V1.heap.size]? = some (.cells #[.int .i64 0, .int .i64 0, .int .i64 0, .int .i64 0] 71 (0, 0))) := by unfold Hid; rw [<- hWn]; exact qK V1 _ _
   have hH1 := hHeld.next hb
   have HB2 := Lib.hid (HB1.out.trans (hb.mono HB1.out.size))
   have HQL := Lib.hid HB1.out.size
   refine hK.out _ _ hH1 (fun hHeld => ?_)
   clear hK K hb hH1 hWn HB1
   refine wr1 13 fun K hK => ?_
   obtain ⟨x0, x1, x2, x3, f0, f1, f2, f3, hq⟩ := qBZ HQ2.out (.int .i64 d0) (.int .i64 d1) (.int .i64 d2) (.int .i64 d3)
   have HX := Lib.hid hq
   have hb := qBa (Below.refl W.heap.size V2) HQL.out (.int .i64 d0) (.int .i64 d1) (.int .i64 d2) (.int .i64 d3)
   have HBX := Lib.hid (HB2.out.trans hb)
   have hMX := HW.out.next HBX.out
   clear hq hb
   go_simp
   refine hK.out _ _ hMX (fun hHeld => ?_)
   clear hK K hMX x0 x1 x2 x3 f0 f1 f2 f3 HB2 HQ2
   generalize (((World.setCell V2 ⟨V1.heap.size, 0, none⟩ (.int .i64 d0)).setCell ⟨V1.heap.size, 1, none⟩ (.int .i64 d1)).setCell ⟨V1.heap.size, 2, none⟩ (.int .i64 d2)).setCell ⟨V1.heap.size, 3, none⟩ (.int .i64 d3) = X at *
   generalize V1.heap.size = q at *
   refine tk 14 5 hHeld ?_
   simp only [sA, sB, sC]
   refine wpAnyH_done (by kernel_rfl) ?_ _
   refine NoPanic.normal ?_
   have hqg := qEe hHeld HX.out
   have hgq : g ≠ q := fun e => hqg e.symm
   have y0 := qA (i := 0) HX.out rfl
   have y1 := qA (i := 1) HX.out rfl
   have y2 := qA (i := 2) HX.out rfl
   have y3 := qA (i := 3) HX.out rfl
   have x23 := hHeld.cells.2.2.2.2.2.2.2
   have xf := hHeld.fz 23
   have HMX := Lib.hid (hHeld.setst (m.st + 1))
   clear hHeld
   go_upto_region 9 with (first | (go_at_call 27; refine (HL.out _).mono ?_; rintro e w' ⟨rfl, rfl⟩) | fail)
   refine wp_region_noPanic ?_
   refine wp_region_held_drew (S := fun _ => True) (by kernel_rfl) trivial (fun hHeld => ?_)
   have HMY := Lib.hid (HMX.out.next (Below.refl _ _).drew)
   have HKY := Lib.hid (((HKN.out _ HBX.out).trans (Kept.cell (K := K) (gb := gb) ⟨g, 23, none⟩ (.int .i64 (m.st + 1)))).drew)
   have HQY : Hid ((X.setCell ⟨g, 23, none⟩ (.int .i64 (m.st + 1))).drew.heap[q]? = some (.cells #[.int .i64 d0, .int .i64 d1, .int .i64 d2, .int .i64 d3] 71 (0, 0))) := by
    show (X.setCell ⟨g, 23, none⟩ (.int .i64 (m.st + 1))).heap[q]? = _
    rw [Below.heap_setCell _ _ _ _ (by exact hqg)]
    exact HX.out
   clear HMX y0 y1 y2 y3 x23 xf
   generalize (X.setCell ⟨g, 23, none⟩ (.int .i64 (m.st + 1))).drew = Y at *
   refine tk 0 42 hHeld ?_
   simp only [sA, sB, sC]
   refine tk 2 44 hHeld ?_
   simp only [sA, sB, sC]
   refine tk 3 45 hHeld ?_
   simp only [sA, sB, sC]
   refine tk 4 46 hHeld ?_
   simp only [sA, sB, sC]
   refine wpAnyH_ready (rs := [1, 5]) (by kernel_rfl) (by simp) ?_
   refine AllReadyH.cons rfl (fun K hK => ?_) (AllReadyH.cons rfl (fun K hK => ?_) AllReadyH.nil)
   ·have z0 := qA (i := 0) HQY.out rfl
    have z1 := qA (i := 1) HQY.out rfl
    have z2 := qA (i := 2) HQY.out rfl
    have z3 := qA (i := 3) HQY.out rfl
    go_simp
    refine hK.out _ _ trivial (fun hHeld => ?_)
    clear hK K z0 z1 z2 z3
    refine wr1 5 fun K hK => ?_
    have z := HMY.out.cells.2.1
    go_simp
    refine hK.out _ _ trivial (fun hHeld => ?_)
    clear hK K z
    refine wr1 6 fun K hK => ?_
    go_simp
    refine (HDO.out Y HMY.out).mono ?_
    rintro e W2 ⟨rfl, hp2⟩
    obtain ⟨hk2, ta2, tc2, hm2⟩ := hp2
    have HK2 := Lib.hid (HKY.out.trans hk2)
    have HM2 := Lib.hid hm2
    have w17 := hm2.cells.2.1
    rw [HPC.out] at w17
    have wf := hm2.fz 17
    refine hK.out _ _ trivial (fun hHeld => ?_)
    clear hK K hk2 hm2
    refine tk 7 5 hHeld ?_
    simp only [sA, sB, sC]
    refine wpAnyH_done (by kernel_rfl) ?_ _
    refine NoPanic.normal ?_
    go_wp2_with (first | (go_at_call 30; refine (HBH.out _).mono ?_; rintro e w' ⟨rfl, rfl⟩) | fail)
    go_ret2
    exact ⟨by rw [HD.out]; rfl, HK2.out.trans (Kept.cell ⟨g, 17, none⟩ _), fun _ => ⟨_, _, by rw [HMM.out]; exact HM2.out.setpc (m.pc + 2)⟩⟩
   ·have z := HMY.out.cells.2.1
    go_simp
    refine hK.out _ _ trivial (fun hHeld => ?_)
    clear hK K z
    refine wr1 1 fun K hK => ?_
    have z0 := qA (i := 0) HQY.out rfl
    have z1 := qA (i := 1) HQY.out rfl
    have z2 := qA (i := 2) HQY.out rfl
    have z3 := qA (i := 3) HQY.out rfl
    go_simp
    refine hK.out _ _ trivial (fun hHeld => ?_)
    clear hK K z0 z1 z2 z3
    refine wr1 6 fun K hK => ?_
    go_simp
    refine (HDO.out Y HMY.out).mono ?_
    rintro e W2 ⟨rfl, hp2⟩
    obtain ⟨hk2, ta2, tc2, hm2⟩ := hp2
    have HK2 := Lib.hid (HKY.out.trans hk2)
    have HM2 := Lib.hid hm2
    have w17 := hm2.cells.2.1
    rw [HPC.out] at w17
    have wf := hm2.fz 17
    refine hK.out _ _ trivial (fun hHeld => ?_)
    clear hK K hk2 hm2
    refine tk 7 5 hHeld ?_
    simp only [sA, sB, sC]
    refine wpAnyH_done (by kernel_rfl) ?_ _
    refine NoPanic.normal ?_
    go_wp2_with (first | (go_at_call 30; refine (HBH.out _).mono ?_; rintro e w' ⟨rfl, rfl⟩) | fail)
    go_ret2
    exact ⟨by rw [HD.out]; rfl, HK2.out.trans (Kept.cell ⟨g, 17, none⟩ _), fun _ => ⟨_, _, by rw [HMM.out]; exact HM2.out.setpc (m.pc + 2)⟩⟩
  ·go_simp
   generalize hWn : World.alloc V0 _ = V1
   have hb : Below V0.heap.size V0 V1 := by rw [<- hWn]; exact qE _ _
   have HQ1 : Hid (V1.heap[V0.heap.size]? = some (.cells #[.int .i64 0, .int .i64 0, .int .i64 0, .int .i64 0] 71 (0, 0))) := by unfold Hid; rw [<- hWn]; exact qK V0 _ _
   have hH1 := hHeld.next hb
   have HB1 := Lib.hid (HB0.out.trans (hb.mono HB0.out.size))
   have HQL := Lib.hid HB0.out.size
   refine hK.out _ _ hH1 (fun hHeld => ?_)
   clear hK K hb hH1 hWn HB0
   refine wr1 8 fun K hK => ?_
   go_simp
   refine (HI.out V1 hHeld HB1.out).mono ?_
   rintro e V2 ⟨rfl, hb⟩
   have hH1 := hHeld.next hb
   have HB2 := Lib.hid (HB1.out.trans (hb.mono HB1.out.size))
   have HQ2 := Lib.hid ((hb.block _ (Array.getElem?_eq_some_iff.1 HQ1.out).1).trans HQ1.out)
   refine hK.out _ _ hH1 (fun hHeld => ?_)
   clear hK K hb hH1 HB1 HQ1
   refine tk 9 6 hHeld ?_
   simp only [sA, sB, sC]
   refine tk 10 16 hHeld ?_
   simp only [sA, sB, sC]
   refine tk 11 17 hHeld ?_
   simp only [sA, sB, sC]
   refine wr1 13 fun K hK => ?_
   obtain ⟨x0, x1, x2, x3, f0, f1, f2, f3, hq⟩ := qBZ HQ2.out (.int .i64 d0) (.int .i64 d1) (.int .i64 d2) (.int .i64 d3)
   have HX := Lib.hid hq
   have hb := qBa (Below.refl W.heap.size V2) HQL.out (.int .i64 d0) (.int .i64 d1) (.int .i64 d2) (.int .i64 d3)
   have HBX := Lib.hid (HB2.out.trans hb)
   have hMX := HW.out.next HBX.out
   clear hq hb
   go_simp
   refine hK.out _ _ hMX (fun hHeld => ?_)
   clear hK K hMX x0 x1 x2 x3 f0 f1 f2 f3 HB2 HQ2
   generalize (((World.setCell V2 ⟨V0.heap.size, 0, none⟩ (.int .i64 d0)).setCell ⟨V0.heap.size, 1, none⟩ (.int .i64 d1)).setCell ⟨V0.heap.size, 2, none⟩ (.int .i64 d2)).setCell ⟨V0.heap.size, 3, none⟩ (.int .i64 d3) = X at *
   generalize V0.heap.size = q at *
   refine tk 14 5 hHeld ?_
   simp only [sA, sB, sC]
   refine wpAnyH_done (by kernel_rfl) ?_ _
   refine NoPanic.normal ?_
   have hqg := qEe hHeld HX.out
   have hgq : g ≠ q := fun e => hqg e.symm
   have y0 := qA (i := 0) HX.out rfl
   have y1 := qA (i := 1) HX.out rfl
   have y2 := qA (i := 2) HX.out rfl
   have y3 := qA (i := 3) HX.out rfl
   have x23 := hHeld.cells.2.2.2.2.2.2.2
   have xf := hHeld.fz 23
   have HMX := Lib.hid (hHeld.setst (m.st + 1))
   clear hHeld
   go_upto_region 9 with (first | (go_at_call 27; refine (HL.out _).mono ?_; rintro e w' ⟨rfl, rfl⟩) | fail)
   refine wp_region_noPanic ?_
   refine wp_region_held_drew (S := fun _ => True) (by kernel_rfl) trivial (fun hHeld => ?_)
   have HMY := Lib.hid (HMX.out.next (Below.refl _ _).drew)
   have HKY := Lib.hid (((HKN.out _ HBX.out).trans (Kept.cell (K := K) (gb := gb) ⟨g, 23, none⟩ (.int .i64 (m.st + 1)))).drew)
   have HQY : Hid ((X.setCell ⟨g, 23, none⟩ (.int .i64 (m.st + 1))).drew.heap[q]? = some (.cells #[.int .i64 d0, .int .i64 d1, .int .i64 d2, .int .i64 d3] 71 (0, 0))) := by
    show (X.setCell ⟨g, 23, none⟩ (.int .i64 (m.st + 1))).heap[q]? = _
    rw [Below.heap_setCell _ _ _ _ (by exact hqg)]
    exact HX.out
   clear HMX y0 y1 y2 y3 x23 xf
   generalize (X.setCell ⟨g, 23, none⟩ (.int .i64 (m.st + 1))).drew = Y at *
   refine tk 0 42 hHeld ?_
   simp only [sA, sB, sC]
   refine tk 2 44 hHeld ?_
   simp only [sA, sB, sC]
   refine tk 3 45 hHeld ?_
   simp only [sA, sB, sC]
   refine tk 4 46 hHeld ?_
   simp only [sA, sB, sC]
   refine wpAnyH_ready (rs := [1, 5]) (by kernel_rfl) (by simp) ?_
   refine AllReadyH.cons rfl (fun K hK => ?_) (AllReadyH.cons rfl (fun K hK => ?_) AllReadyH.nil)
   ·have z0 := qA (i := 0) HQY.out rfl
    have z1 := qA (i := 1) HQY.out rfl
    have z2 := qA (i := 2) HQY.out rfl
    have z3 := qA (i := 3) HQY.out rfl
    go_simp
    refine hK.out _ _ trivial (fun hHeld => ?_)
    clear hK K z0 z1 z2 z3
    refine wr1 5 fun K hK => ?_
    have z := HMY.out.cells.2.1
    go_simp
    refine hK.out _ _ trivial (fun hHeld => ?_)
    clear hK K z
    refine wr1 6 fun K hK => ?_
    go_simp
    refine (HDO.out Y HMY.out).mono ?_
    rintro e W2 ⟨rfl, hp2⟩
    obtain ⟨hk2, ta2, tc2, hm2⟩ := hp2
    have HK2 := Lib.hid (HKY.out.trans hk2)
    have HM2 := Lib.hid hm2
    have w17 := hm2.cells.2.1
    rw [HPC.out] at w17
    have wf := hm2.fz 17
    refine hK.out _ _ trivial (fun hHeld => ?_)
    clear hK K hk2 hm2
    refine tk 7 5 hHeld ?_
    simp only [sA, sB, sC]
    refine wpAnyH_done (by kernel_rfl) ?_ _
    refine NoPanic.normal ?_
    go_wp2_with (first | (go_at_call 30; refine (HBH.out _).mono ?_; rintro e w' ⟨rfl, rfl⟩) | fail)
    go_ret2
    exact ⟨by rw [HD.out]; rfl, HK2.out.trans (Kept.cell ⟨g, 17, none⟩ _), fun _ => ⟨_, _, by rw [HMM.out]; exact HM2.out.setpc (m.pc + 2)⟩⟩
   ·have z := HMY.out.cells.2.1
    go_simp
    refine hK.out _ _ trivial (fun hHeld => ?_)
    clear hK K z
    refine wr1 1 fun K hK => ?_
    have z0 := qA (i := 0) HQY.out rfl
    have z1 := qA (i := 1) HQY.out rfl
    have z2 := qA (i := 2) HQY.out rfl
    have z3 := qA (i := 3) HQY.out rfl
    go_simp
    refine hK.out _ _ trivial (fun hHeld => ?_)
    clear hK K z0 z1 z2 z3
    refine wr1 6 fun K hK => ?_
    go_simp
    refine (HDO.out Y HMY.out).mono ?_
    rintro e W2 ⟨rfl, hp2⟩
    obtain ⟨hk2, ta2, tc2, hm2⟩ := hp2
    have HK2 := Lib.hid (HKY.out.trans hk2)
    have HM2 := Lib.hid hm2
    have w17 := hm2.cells.2.1
    rw [HPC.out] at w17
    have wf := hm2.fz 17
    refine hK.out _ _ trivial (fun hHeld => ?_)
    clear hK K hk2 hm2
    refine tk 7 5 hHeld ?_
    simp only [sA, sB, sC]
    refine wpAnyH_done (by kernel_rfl) ?_ _
    refine NoPanic.normal ?_
    go_wp2_with (first | (go_at_call 30; refine (HBH.out _).mono ?_; rintro e w' ⟨rfl, rfl⟩) | fail)
    go_ret2
    exact ⟨by rw [HD.out]; rfl, HK2.out.trans (Kept.cell ⟨g, 17, none⟩ _), fun _ => ⟨_, _, by rw [HMM.out]; exact HM2.out.setpc (m.pc + 2)⟩⟩
 ·obtain ⟨hcn1, hcn2⟩ := hcn
  clear HCND
  go_enter Tryz.func16, Tryz.ntmps16
  go_upto_region 1 with fail
  refine wp_region_noPanic ?_
  refine wp_region_held_drew (S := fun w' => MR K g m gb bc (.slice s0 s1 s2) ta tc w') (by kernel_rfl) hH0 (fun hHeld => ?_)
  clear hH0
  generalize W.drew = V0 at *
  refine tk 0 7 hHeld ?_
  simp only [sA, sB, sC]
  refine tk 1 8 hHeld ?_
  simp only [sA, sB, sC]
  refine tk 2 9 hHeld ?_
  simp only [sA, sB, sC]
  refine tk2 3 10 (v := ?_) ?_ hHeld ?_
  rotate_left
  ·intro w hSw
   have y0 := hSw.cells.2.2.2.1
   have y1 := hSw.cells.2.2.2.2.1
   have y2 := hSw.cells.2.2.2.2.2.1
   go_simp
   try with_reducible rfl
  simp only [sA, sB, sC]
  refine tk 4 11 hHeld ?_
  simp only [sA, sB, sC]
  refine tk 5 12 hHeld ?_
  simp only [sA, sB, sC]
  refine tk 6 13 hHeld ?_
  simp only [sA, sB, sC]
  refine tk2 7 14 (v := ?_) ?_ hHeld ?_
  rotate_left
  ·intro w hSw
   have y := hSw.cells.2.1
   go_simp
   try with_reducible rfl
  simp only [sA, sB, sC]
  refine wpAnyH_ready (rs := [8, 12]) (by kernel_rfl) (by simp) ?_
  refine AllReadyH.cons rfl (fun K hK => ?_) (AllReadyH.cons rfl (fun K hK => ?_) AllReadyH.nil)
  ·go_simp
   refine (HI.out V0 hHeld HB0.out).mono ?_
   rintro e V1 ⟨rfl, hb⟩
   have hH1 := hHeld.next hb
   have HB1 := Lib.hid (HB0.out.trans (hb.mono HB0.out.size))
   refine hK.out _ _ hH1 (fun hHeld => ?_)
   clear hK K hb hH1 HB0
   refine tk 9 6 hHeld ?_
   simp only [sA, sB, sC]
   refine tk 10 16 hHeld ?_
   simp only [sA, sB, sC]
   refine tk 11 17 hHeld ?_
   simp only [sA, sB, sC]
   refine wr1 12 fun K hK => ?_
   go_simp
   generalize hWn : World.alloc V1 _ = V2
   have hb : Below V1.heap.size V1 V2 := by rw [<- hWn]; exact qE _ _
   have HQ2 : Hid (V2.heap[V1.heap.size]? = some (.cells #[.int .i64 0, .int .i64 0, .int .i64 0, .int .i64 0] 71 (0, 0))) := by unfold Hid; rw [<- hWn]; exact qK V1 _ _
   have hH1 := hHeld.next hb
   have HB2 := Lib.hid (HB1.out.trans (hb.mono HB1.out.size))
   have HQL := Lib.hid HB1.out.size
   refine hK.out _ _ hH1 (fun hHeld => ?_)
   clear hK K hb hH1 hWn HB1
   refine wr1 13 fun K hK => ?_
   obtain ⟨x0, x1, x2, x3, f0, f1, f2, f3, hq⟩ := qBZ HQ2.out (.int .i64 d0) (.int .i64 d1) (.int .i64 d2) (.int .i64 d3)
   have HX := Lib.hid hq
   have hb := qBa (Below.refl W.heap.size V2) HQL.out (.int .i64 d0) (.int .i64 d1) (.int .i64 d2) (.int .i64 d3)
   have HBX := Lib.hid (HB2.out.trans hb)
   have hMX := HW.out.next HBX.out
   clear hq hb
   go_simp
   refine hK.out _ _ hMX (fun hHeld => ?_)
   clear hK K hMX x0 x1 x2 x3 f0 f1 f2 f3 HB2 HQ2
   generalize (((World.setCell V2 ⟨V1.heap.size, 0, none⟩ (.int .i64 d0)).setCell ⟨V1.heap.size, 1, none⟩ (.int .i64 d1)).setCell ⟨V1.heap.size, 2, none⟩ (.int .i64 d2)).setCell ⟨V1.heap.size, 3, none⟩ (.int .i64 d3) = X at *
   generalize V1.heap.size = q at *
   refine tk 14 5 hHeld ?_
   simp only [sA, sB, sC]
   refine wpAnyH_done (by kernel_rfl) ?_ _
   refine NoPanic.normal ?_
   have hqg := qEe hHeld HX.out
   have hgq : g ≠ q := fun e => hqg e.symm
   have y0 := qA (i := 0) HX.out rfl
   have y1 := qA (i := 1) HX.out rfl
   have y2 := qA (i := 2) HX.out rfl
   have y3 := qA (i := 3) HX.out rfl
   have x23 := hHeld.cells.2.2.2.2.2.2.2
   have xf := hHeld.fz 23
   have HMX := Lib.hid (hHeld.setst (m.st + 1))
   clear hHeld
   go_upto_region 9 with (first | (go_at_call 27; refine (HL.out _).mono ?_; rintro e w' ⟨rfl, rfl⟩) | fail)
   refine wp_region_noPanic ?_
   refine wp_region_held_drew (S := fun _ => True) (by kernel_rfl) trivial (fun hHeld => ?_)
   have HMY := Lib.hid (HMX.out.next (Below.refl _ _).drew)
   have HKY := Lib.hid (((HKN.out _ HBX.out).trans (Kept.cell (K := K) (gb := gb) ⟨g, 23, none⟩ (.int .i64 (m.st + 1)))).drew)
   have HQY : Hid ((X.setCell ⟨g, 23, none⟩ (.int .i64 (m.st + 1))).drew.heap[q]? = some (.cells #[.int .i64 d0, .int .i64 d1, .int .i64 d2, .int .i64 d3] 71 (0, 0))) := by
    show (X.setCell ⟨g, 23, none⟩ (.int .i64 (m.st + 1))).heap[q]? = _
    rw [Below.heap_setCell _ _ _ _ (by exact hqg)]
    exact HX.out
   clear HMX y0 y1 y2 y3 x23 xf
   generalize (X.setCell ⟨g, 23, none⟩ (.int .i64 (m.st + 1))).drew = Y at *
   refine tk 0 42 hHeld ?_
   simp only [sA, sB, sC]
   refine tk 2 44 hHeld ?_
   simp only [sA, sB, sC]
   refine tk 3 45 hHeld ?_
   simp only [sA, sB, sC]
   refine tk 4 46 hHeld ?_
   simp only [sA, sB, sC]
   refine wpAnyH_ready (rs := [1, 5]) (by kernel_rfl) (by simp) ?_
   refine AllReadyH.cons rfl (fun K hK => ?_) (AllReadyH.cons rfl (fun K hK => ?_) AllReadyH.nil)
   ·have z0 := qA (i := 0) HQY.out rfl
    have z1 := qA (i := 1) HQY.out rfl
    have z2 := qA (i := 2) HQY.out rfl
    have z3 := qA (i := 3) HQY.out rfl
    go_simp
    refine hK.out _ _ trivial (fun hHeld => ?_)
    clear hK K z0 z1 z2 z3
    refine wr1 5 fun K hK => ?_
    have z := HMY.out.cells.2.1
    go_simp
    refine hK.out _ _ trivial (fun hHeld => ?_)
    clear hK K z
    refine wr1 6 fun K hK => ?_
    go_simp
    refine (HDO.out Y HMY.out).mono ?_
    rintro e W2 ⟨rfl, hp2⟩
    obtain ⟨hk2, ta2, tc2, hm2⟩ := hp2
    have HK2 := Lib.hid (HKY.out.trans hk2)
    have HM2 := Lib.hid hm2
    have w17 := hm2.cells.2.1
    rw [HPC.out] at w17
    have wf := hm2.fz 17
    refine hK.out _ _ trivial (fun hHeld => ?_)
    clear hK K hk2 hm2
    refine tk 7 5 hHeld ?_
    simp only [sA, sB, sC]
    refine wpAnyH_done (by kernel_rfl) ?_ _
    refine NoPanic.normal ?_
    go_wp2_with (first | (go_at_call 30; refine (HBH.out _).mono ?_; rintro e w' ⟨rfl, rfl⟩) | fail)
    go_ret2
    exact ⟨by rw [HD.out]; rfl, HK2.out.trans (Kept.cell ⟨g, 17, none⟩ _), fun _ => ⟨_, _, by rw [HMM.out]; exact HM2.out.setpc (m.pc + 2)⟩⟩
   ·have z := HMY.out.cells.2.1
    go_simp
    refine hK.out _ _ trivial (fun hHeld => ?_)
    clear hK K z
    refine wr1 1 fun K hK => ?_
    have z0 := qA (i := 0) HQY.out rfl
    have z1 := qA (i := 1) HQY.out rfl
    have z2 := qA (i := 2) HQY.out rfl
    have z3 := qA (i := 3) HQY.out rfl
    go_simp
    refine hK.out _ _ trivial (fun hHeld => ?_)
    clear hK K z0 z1 z2 z3
    refine wr1 6 fun K hK => ?_
    go_simp
    refine (HDO.out Y HMY.out).mono ?_
    rintro e W2 ⟨rfl, hp2⟩
    obtain ⟨hk2, ta2, tc2, hm2⟩ := hp2
    have HK2 := Lib.hid (HKY.out.trans hk2)
    have HM2 := Lib.hid hm2
    have w17 := hm2.cells.2.1
    rw [HPC.out] at w17
    have wf := hm2.fz 17
    refine hK.out _ _ trivial (fun hHeld => ?_)
    clear hK K hk2 hm2
    refine tk 7 5 hHeld ?_
    simp only [sA, sB, sC]
    refine wpAnyH_done (by kernel_rfl) ?_ _
    refine NoPanic.normal ?_
    go_wp2_with (first | (go_at_call 30; refine (HBH.out _).mono ?_; rintro e w' ⟨rfl, rfl⟩) | fail)
    go_ret2
    exact ⟨by rw [HD.out]; rfl, HK2.out.trans (Kept.cell ⟨g, 17, none⟩ _), fun _ => ⟨_, _, by rw [HMM.out]; exact HM2.out.setpc (m.pc + 2)⟩⟩
  ·go_simp
   generalize hWn : World.alloc V0 _ = V1
   have hb : Below V0.heap.size V0 V1 := by rw [<- hWn]; exact qE _ _
   have HQ1 : Hid (V1.heap[V0.heap.size]? = some (.cells #[.int .i64 0, .int .i64 0, .int .i64 0, .int .i64 0] 71 (0, 0))) := by unfold Hid; rw [<- hWn]; exact qK V0 _ _
   have hH1 := hHeld.next hb
   have HB1 := Lib.hid (HB0.out.trans (hb.mono HB0.out.size))
   have HQL := Lib.hid HB0.out.size
   refine hK.out _ _ hH1 (fun hHeld => ?_)
   clear hK K hb hH1 hWn HB0
   refine wr1 8 fun K hK => ?_
   go_simp
   refine (HI.out V1 hHeld HB1.out).mono ?_
   rintro e V2 ⟨rfl, hb⟩
   have hH1 := hHeld.next hb
   have HB2 := Lib.hid (HB1.out.trans (hb.mono HB1.out.size))
   have HQ2 := Lib.hid ((hb.block _ (Array.getElem?_eq_some_iff.1 HQ1.out).1).trans HQ1.out)
   refine hK.out _ _ hH1 (fun hHeld => ?_)
   clear hK K hb hH1 HB1 HQ1
   refine tk 9 6 hHeld ?_
   simp only [sA, sB, sC]
   refine tk 10 16 hHeld ?_
   simp only [sA, sB, sC]
   refine tk 11 17 hHeld ?_
   simp only [sA, sB, sC]
   refine wr1 13 fun K hK => ?_
   obtain ⟨x0, x1, x2, x3, f0, f1, f2, f3, hq⟩ := qBZ HQ2.out (.int .i64 d0) (.int .i64 d1) (.int .i64 d2) (.int .i64 d3)
   have HX := Lib.hid hq
   have hb := qBa (Below.refl W.heap.size V2) HQL.out (.int .i64 d0) (.int .i64 d1) (.int .i64 d2) (.int .i64 d3)
   have HBX := Lib.hid (HB2.out.trans hb)
   have hMX := HW.out.next HBX.out
   clear hq hb
   go_simp
   refine hK.out _ _ hMX (fun hHeld => ?_)
   clear hK K hMX x0 x1 x2 x3 f0 f1 f2 f3 HB2 HQ2
   generalize (((World.setCell V2 ⟨V0.heap.size, 0, none⟩ (.int .i64 d0)).setCell ⟨V0.heap.size, 1, none⟩ (.int .i64 d1)).setCell ⟨V0.heap.size, 2, none⟩ (.int .i64 d2)).setCell ⟨V0.heap.size, 3, none⟩ (.int .i64 d3) = X at *
   generalize V0.heap.size = q at *
   refine tk 14 5 hHeld ?_
   simp only [sA, sB, sC]
   refine wpAnyH_done (by kernel_rfl) ?_ _
   refine NoPanic.normal ?_
   have hqg := qEe hHeld HX.out
   have hgq : g ≠ q := fun e => hqg e.symm
   have y0 := qA (i := 0) HX.out rfl
   have y1 := qA (i := 1) HX.out rfl
   have y2 := qA (i := 2) HX.out rfl
   have y3 := qA (i := 3) HX.out rfl
   have x23 := hHeld.cells.2.2.2.2.2.2.2
   have xf := hHeld.fz 23
   have HMX := Lib.hid (hHeld.setst (m.st + 1))
   clear hHeld
   go_upto_region 9 with (first | (go_at_call 27; refine (HL.out _).mono ?_; rintro e w' ⟨rfl, rfl⟩) | fail)
   refine wp_region_noPanic ?_
   refine wp_region_held_drew (S := fun _ => True) (by kernel_rfl) trivial (fun hHeld => ?_)
   have HMY := Lib.hid (HMX.out.next (Below.refl _ _).drew)
   have HKY := Lib.hid (((HKN.out _ HBX.out).trans (Kept.cell (K := K) (gb := gb) ⟨g, 23, none⟩ (.int .i64 (m.st + 1)))).drew)
   have HQY : Hid ((X.setCell ⟨g, 23, none⟩ (.int .i64 (m.st + 1))).drew.heap[q]? = some (.cells #[.int .i64 d0, .int .i64 d1, .int .i64 d2, .int .i64 d3] 71 (0, 0))) := by
    show (X.setCell ⟨g, 23, none⟩ (.int .i64 (m.st + 1))).heap[q]? = _
    rw [Below.heap_setCell _ _ _ _ (by exact hqg)]
    exact HX.out
   clear HMX y0 y1 y2 y3 x23 xf
   generalize (X.setCell ⟨g, 23, none⟩ (.int .i64 (m.st + 1))).drew = Y at *
   refine tk 0 42 hHeld ?_
   simp only [sA, sB, sC]
   refine tk 2 44 hHeld ?_
   simp only [sA, sB, sC]
   refine tk 3 45 hHeld ?_
   simp only [sA, sB, sC]
   refine tk 4 46 hHeld ?_
   simp only [sA, sB, sC]
   refine wpAnyH_ready (rs := [1, 5]) (by kernel_rfl) (by simp) ?_
   refine AllReadyH.cons rfl (fun K hK => ?_) (AllReadyH.cons rfl (fun K hK => ?_) AllReadyH.nil)
   ·have z0 := qA (i := 0) HQY.out rfl
    have z1 := qA (i := 1) HQY.out rfl
    have z2 := qA (i := 2) HQY.out rfl
    have z3 := qA (i := 3) HQY.out rfl
    go_simp
    refine hK.out _ _ trivial (fun hHeld => ?_)
    clear hK K z0 z1 z2 z3
    refine wr1 5 fun K hK => ?_
    have z := HMY.out.cells.2.1
    go_simp
    refine hK.out _ _ trivial (fun hHeld => ?_)
    clear hK K z
    refine wr1 6 fun K hK => ?_
    go_simp
    refine (HDO.out Y HMY.out).mono ?_
    rintro e W2 ⟨rfl, hp2⟩
    obtain ⟨hk2, ta2, tc2, hm2⟩ := hp2
    have HK2 := Lib.hid (HKY.out.trans hk2)
    have HM2 := Lib.hid hm2
    have w17 := hm2.cells.2.1
    rw [HPC.out] at w17
    have wf := hm2.fz 17
    refine hK.out _ _ trivial (fun hHeld => ?_)
    clear hK K hk2 hm2
    refine tk 7 5 hHeld ?_
    simp only [sA, sB, sC]
    refine wpAnyH_done (by kernel_rfl) ?_ _
    refine NoPanic.normal ?_
    go_wp2_with (first | (go_at_call 30; refine (HBH.out _).mono ?_; rintro e w' ⟨rfl, rfl⟩) | fail)
    go_ret2
    exact ⟨by rw [HD.out]; rfl, HK2.out.trans (Kept.cell ⟨g, 17, none⟩ _), fun _ => ⟨_, _, by rw [HMM.out]; exact HM2.out.setpc (m.pc + 2)⟩⟩
   ·have z := HMY.out.cells.2.1
    go_simp
    refine hK.out _ _ trivial (fun hHeld => ?_)
    clear hK K z
    refine wr1 1 fun K hK => ?_
    have z0 := qA (i := 0) HQY.out rfl
    have z1 := qA (i := 1) HQY.out rfl
    have z2 := qA (i := 2) HQY.out rfl
    have z3 := qA (i := 3) HQY.out rfl
    go_simp
    refine hK.out _ _ trivial (fun hHeld => ?_)
    clear hK K z0 z1 z2 z3
    refine wr1 6 fun K hK => ?_
    go_simp
    refine (HDO.out Y HMY.out).mono ?_
    rintro e W2 ⟨rfl, hp2⟩
    obtain ⟨hk2, ta2, tc2, hm2⟩ := hp2
    have HK2 := Lib.hid (HKY.out.trans hk2)
    have HM2 := Lib.hid hm2
    have w17 := hm2.cells.2.1
    rw [HPC.out] at w17
    have wf := hm2.fz 17
    refine hK.out _ _ trivial (fun hHeld => ?_)
    clear hK K hk2 hm2
    refine tk 7 5 hHeld ?_
    simp only [sA, sB, sC]
    refine wpAnyH_done (by kernel_rfl) ?_ _
    refine NoPanic.normal ?_
    go_wp2_with (first | (go_at_call 30; refine (HBH.out _).mono ?_; rintro e w' ⟨rfl, rfl⟩) | fail)
    go_ret2
    exact ⟨by rw [HD.out]; rfl, HK2.out.trans (Kept.cell ⟨g, 17, none⟩ _), fun _ => ⟨_, _, by rw [HMM.out]; exact HM2.out.setpc (m.pc + 2)⟩⟩
def ResM (m : Ma) : Prop := qBo (fV m m.pc 0) = false /\ Res (fV m m.pc 0)
theorem qLX (K g : Nat) (m : Ma) (gb bc : Nat) (s0 : Option Addr) (s1 s2 : Nat) (ta : Option Addr) (tc : Nat) (k : Nat) (W : World) (h : MR K g m gb bc (.slice s0 s1 s2) ta tc W) (hR : Runs m k) (hk : k <= 100000) (hbc : m.by'.length <= bc) (hres : ResM m) :
  Calls Tryz.prog 16 #[.pointer (some ⟨g, 0, none⟩)] W (qF5 K g gb bc (.slice s0 s1 s2) m W) := by
 by_cases he : qt m m.pc = 0
 ·by_cases hend : fV m m.pc 0 = 27 /\ fV m m.pc 3 = 0
  ·exact step_fin K g m gb bc s0 s1 s2 ta tc k W h hR hk hbc he hend
  ·exact step_pln K g m gb bc s0 s1 s2 ta tc k W h hR hk hbc he hend hres.1 hres.2
 ·exact step_no K g m gb bc s0 s1 s2 ta tc k W h hR hk hbc he
end Go.Proofs.YtgjmbjahgcndnaaGreatDoor.Si
