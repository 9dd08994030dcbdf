/- The program's own sim: step. -/
import Derived.Test.YtgjmbjahgcndnaaGreatDoorPut16
import Derived.Test.YtgjmbjahgcndnaaGreatDoorPut14
namespace Go.Proofs.YtgjmbjahgcndnaaGreatDoor.Si
open Go.RowKit Isa

theorem four_new {V : World} {q : Nat} {a b c d : Value} (h : V.heap[q]? = some (.cells #[a, b, c, d] 71 (0, 0))) (x0 x1 x2 x3 : Value) :
    V.cell? ⟨q, 0, none⟩ = some a ∧ V.cell? ⟨q, 1, none⟩ = some b ∧ V.cell? ⟨q, 2, none⟩ = some c ∧ V.cell? ⟨q, 3, none⟩ = some d ∧ V.frozen? ⟨q, 0, none⟩ = false ∧ V.frozen? ⟨q, 1, none⟩ = false ∧ V.frozen? ⟨q, 2, none⟩ = false ∧ V.frozen? ⟨q, 3, none⟩ = false ∧
    ((((V.setCell ⟨q, 0, none⟩ x0).setCell ⟨q, 1, none⟩ x1).setCell ⟨q, 2, none⟩ x2).setCell ⟨q, 3, none⟩ x3).heap[q]? = some (.cells #[x0, x1, x2, x3] 71 (0, 0)) := by
  have h0 := _root_.Go.heap_setCell_same V q 0 _ 71 x0 h
  have h1 := _root_.Go.heap_setCell_same _ q 1 _ 71 x1 h0
  have h2 := _root_.Go.heap_setCell_same _ q 2 _ 71 x2 h1
  have h3 := _root_.Go.heap_setCell_same _ q 3 _ 71 x3 h2
  exact ⟨cell_of_block (i := 0) h rfl, cell_of_block (i := 1) h rfl, cell_of_block (i := 2) h rfl, cell_of_block (i := 3) h rfl, blk_froz h, blk_froz h, blk_froz h, blk_froz h, h3⟩
theorem four_bel {B : Nat} {w V : World} (h : Below B w V) {q : Nat} (hq : B ≤ q) (x0 x1 x2 x3 : Value) : Below B w ((((V.setCell ⟨q, 0, none⟩ x0).setCell ⟨q, 1, none⟩ x1).setCell ⟨q, 2, none⟩ x2).setCell ⟨q, 3, none⟩ x3) := four h hq x0 x1 x2 x3
/-- What step answers. -/
def SpPost (K g gb bc : Nat) (sv : Value) (m : Ma) (W : World) (e : Ending) (W' : World) : Prop :=
  e = .returned (.tuple #[.bool (if stepE m = 0 then stepD m else false), .int .i64 (stepE m)]) ∧ Kept K g gb W W' ∧ (stepE m = 0 → ∃ ta' tc', MR K g (stepM m) gb bc sv ta' tc' W')

theorem stepL {m : Ma} (he : fetchE m m.pc = 0) (hl : leadsB (fV m m.pc 0) = true) : stepE m = leadE { m with st := m.st + 1 } (fV m m.pc 0) ∧ stepM m = leadM { m with st := m.st + 1 } (fV m m.pc 0) (fV m m.pc 1) (fV m m.pc 3) ∧ stepD m = false := by
  have h27 : ¬ fV m m.pc 0 = 27 := fun h => by rw [h] at hl; exact absurd hl (by decide)
  have hend : ¬ (fV m m.pc 0 = 27 ∧ fV m m.pc 3 = 0) := fun h => h27 h.1
  have hl' : ¬ leadsB (fV m m.pc 0) = false := by simp [hl]
  have hP : preM m = leadP { m with st := m.st + 1 } (fV m m.pc 0) := rfl
  refine ⟨?_, ?_, ?_⟩
  · unfold stepE leadE
    rw [if_neg (by simp [he]), if_neg hend, if_neg hl']
    rfl
  · unfold stepM leadM
    rw [if_neg hend, if_neg hl']
    rfl
  · unfold stepD
    simp [h27]
theorem stepP {m : Ma} (he : fetchE m m.pc = 0) (hend : ¬ (fV m m.pc 0 = 27 ∧ fV m m.pc 3 = 0)) (hl : leadsB (fV m m.pc 0) = false) : stepE m = plainE { m with st := m.st + 1 } (fV m m.pc 0) (fV m m.pc 1) (fV m m.pc 2) (fV m m.pc 3) m.pc ∧ stepM m = { plainM { m with st := m.st + 1 } (fV m m.pc 0) (fV m m.pc 1) (fV m m.pc 2) (fV m m.pc 3) m.pc with pc := m.pc + 2 } ∧ stepD m = false := by
  refine ⟨?_, ?_, ?_⟩
  · unfold stepE; rw [if_neg (by simp [he]), if_neg hend, if_pos hl]
  · unfold stepM; rw [if_neg hend, if_pos hl]
  · unfold stepD; simp only [he, true_and, decide_eq_false_iff_not]; exact hend
theorem stepZ {m : Ma} (he : fetchE m m.pc = 0) (hend : fV m m.pc 0 = 27 ∧ fV m m.pc 3 = 0) : stepE m = 0 ∧ stepM m = { m with st := m.st + 1 } ∧ stepD m = true :=
  ⟨by unfold stepE; simp [he, hend], by unfold stepM; rw [if_pos hend], by unfold stepD; simp [he, hend]⟩
theorem box_ne {K g : Nat} {m : Ma} {gb bc : Nat} {sv : Value} {ta : Option Addr} {tc : Nat} {W : World} (h : MR K g m gb bc sv ta tc W) {q : Nat} {c : Array Value} (hq : W.heap[q]? = some (.cells c 71 (0, 0))) : q ≠ g := by
  intro e
  have h1 := h.b1
  rw [← e, hq] at h1
  injection h1 with h1
  injection h1 with _ h2
  exact absurd h2 (by decide)

set_option maxHeartbeats 8000000 in
set_option maxRecDepth 100000 in
theorem step_no (K g : Nat) (m : Ma) (gb bc : Nat) (s0 : Option Addr) (s1 s2 : Nat) (ta : Option Addr) (tc : Nat) (k : Nat) (W : World) (h : MR K g m gb bc (.slice s0 s1 s2) ta tc W) (hR : Runs m k) (hk : k ≤ 100000) (hbc : m.by'.length ≤ bc) (he : fetchE m m.pc ≠ 0) :
    Calls Tryz.prog 16 #[.pointer (some ⟨g, 0, none⟩)] W (SpPost K g gb bc (.slice s0 s1 s2) m W) := by
  have hused := hbc
  clear hused
  have hM := hR.mok hk
  obtain ⟨hpc0, hpc1⟩ := hR.pc
  have hst0 := hR.st0
  have hst1 := hR.st1
  have HI : Hid (∀ X, MR K g m gb bc (.slice s0 s1 s2) ta tc X → Below W.heap.size W X → Calls Tryz.prog 26 #[.agg #[.int .i64 m.base, .slice (some ⟨gb, 0, none⟩) m.by'.length bc, .slice s0 s1 s2], .int .i64 m.pc] X fun e w' => e = .returned (.tuple #[.agg #[.int .i64 (fV m m.pc 0), .int .i64 (fV m m.pc 1), .int .i64 (fV m m.pc 2), .int .i64 (fV m m.pc 3)], .int .i64 (fetchE m m.pc)]) ∧ Below X.heap.size X w') := fun X hX _ => instr_any m (some ⟨gb, 0, none⟩) bc (.slice s0 s1 s2) m.pc X hX.brd hX.la hM.b0 hM.b1 (by have := hM.bl; omega) (by omega) (by omega)
  have HKN : Hid (∀ X, Below W.heap.size W X → Kept K g gb W X) := fun X hX => h.kn hX
  have HLE := Lib.hid oleads_any
  have HW := Lib.hid h
  have hH0 := h.next (W' := W.drew) (Below.refl _ _).drew
  have HB0 := Lib.hid ((Below.refl W.heap.size W).drew)
  have HE : Hid (stepE m = fetchE m m.pc) := by unfold Hid stepE; rw [if_pos he]
  have HD : Hid ((if stepE m = 0 then stepD m else false) = false) := by unfold Hid; rw [if_neg (by rw [HE.out]; exact he)]
  have heb : (fetchE m m.pc != 0) = true := by simpa using he
  have HN : Hid (fetchE m m.pc ≠ 0) := he
  clear h hR hM HLE he
  generalize fetchE m m.pc = ee at *
  generalize fV m m.pc 0 = d0 at *
  generalize fV m m.pc 1 = d1 at *
  generalize fV m m.pc 2 = d2 at *
  generalize fV m m.pc 3 = d3 at *
  go_enter Tryz.func16, Tryz.ntmps16
  go_upto_region 1 with fail
  refine wp_region_noPanic ?_
  refine wp_region_held_drew (S := fun w' => MR K g m gb bc (.slice s0 s1 s2) ta tc w') (by kernel_rfl) hH0 (fun hHeld => ?_)
  clear hH0
  generalize W.drew = V0 at *
  refine take_at 0 7 (v := ?_) rfl rfl (by kernel_rfl) (by kernel_rfl) (by kernel_rfl) (fun _ _ _ h => h) rfl ?_ hHeld ?_
  rotate_left
  · intro w hSw
    go_simp
    try with_reducible rfl
  simp only [List.setIfInBounds_toArray, List.set_cons_zero, List.set_cons_succ]
  refine take_at 1 8 (v := ?_) rfl rfl (by kernel_rfl) (by kernel_rfl) (by kernel_rfl) (fun _ _ _ h => h) rfl ?_ hHeld ?_
  rotate_left
  · intro w hSw
    go_simp
    try with_reducible rfl
  simp only [List.setIfInBounds_toArray, List.set_cons_zero, List.set_cons_succ]
  refine take_at 2 9 (v := ?_) rfl rfl (by kernel_rfl) (by kernel_rfl) (by kernel_rfl) (fun _ _ _ h => h) rfl ?_ hHeld ?_
  rotate_left
  · intro w hSw
    go_simp
    try with_reducible rfl
  simp only [List.setIfInBounds_toArray, List.set_cons_zero, List.set_cons_succ]
  refine take_at 3 10 (v := ?_) rfl rfl (by kernel_rfl) (by kernel_rfl) (by kernel_rfl) (fun _ _ _ h => h) rfl ?_ hHeld ?_
  rotate_left
  · intro w hSw
    have y0 := hSw.cells.2.2.2.1
    have y1 := hSw.cells.2.2.2.2.1
    have y2 := hSw.cells.2.2.2.2.2.1
    go_simp
    try with_reducible rfl
  simp only [List.setIfInBounds_toArray, List.set_cons_zero, List.set_cons_succ]
  refine take_at 4 11 (v := ?_) rfl rfl (by kernel_rfl) (by kernel_rfl) (by kernel_rfl) (fun _ _ _ h => h) rfl ?_ hHeld ?_
  rotate_left
  · intro w hSw
    go_simp
    try with_reducible rfl
  simp only [List.setIfInBounds_toArray, List.set_cons_zero, List.set_cons_succ]
  refine take_at 5 12 (v := ?_) rfl rfl (by kernel_rfl) (by kernel_rfl) (by kernel_rfl) (fun _ _ _ h => h) rfl ?_ hHeld ?_
  rotate_left
  · intro w hSw
    go_simp
    try with_reducible rfl
  simp only [List.setIfInBounds_toArray, List.set_cons_zero, List.set_cons_succ]
  refine take_at 6 13 (v := ?_) rfl rfl (by kernel_rfl) (by kernel_rfl) (by kernel_rfl) (fun _ _ _ h => h) rfl ?_ hHeld ?_
  rotate_left
  · intro w hSw
    go_simp
    try with_reducible rfl
  simp only [List.setIfInBounds_toArray, List.set_cons_zero, List.set_cons_succ]
  refine take_at 7 14 (v := ?_) rfl rfl (by kernel_rfl) (by kernel_rfl) (by kernel_rfl) (fun _ _ _ h => h) rfl ?_ hHeld ?_
  rotate_left
  · intro w hSw
    have y := hSw.cells.2.1
    go_simp
    try with_reducible rfl
  simp only [List.setIfInBounds_toArray, List.set_cons_zero, List.set_cons_succ]
  refine wpAnyH_ready (rs := [8, 12]) (by kernel_rfl) (by simp) ?_
  refine AllReadyH.cons rfl (fun K hK => ?_) (AllReadyH.cons rfl (fun K hK => ?_) AllReadyH.nil)
  · go_simp
    refine (HI.out V0 hHeld HB0.out).mono ?_
    rintro e V1 ⟨rfl, hb⟩
    have hH1 := hHeld.next hb
    have HB1 := Lib.hid (HB0.out.trans (hb.mono HB0.out.size))
    refine hK.out _ _ hH1 (fun hHeld => ?_)
    clear hK K hb hH1 HB0
    refine take_at 9 6 (v := ?_) rfl rfl (by kernel_rfl) (by kernel_rfl) (by kernel_rfl) (fun _ _ _ h => h) rfl ?_ hHeld ?_
    rotate_left
    · intro w hSw
      go_simp
      try with_reducible rfl
    simp only [List.setIfInBounds_toArray, List.set_cons_zero, List.set_cons_succ]
    refine take_at 10 16 (v := ?_) rfl rfl (by kernel_rfl) (by kernel_rfl) (by kernel_rfl) (fun _ _ _ h => h) rfl ?_ hHeld ?_
    rotate_left
    · intro w hSw
      go_simp
      try with_reducible rfl
    simp only [List.setIfInBounds_toArray, List.set_cons_zero, List.set_cons_succ]
    refine take_at 11 17 (v := ?_) rfl rfl (by kernel_rfl) (by kernel_rfl) (by kernel_rfl) (fun _ _ _ h => h) rfl ?_ hHeld ?_
    rotate_left
    · intro w hSw
      go_simp
      try with_reducible rfl
    simp only [List.setIfInBounds_toArray, List.set_cons_zero, List.set_cons_succ]
    refine wpAnyH_ready (rs := [12]) (by kernel_rfl) (by simp) ?_
    refine AllReadyH.cons rfl (fun K hK => ?_) AllReadyH.nil
    go_simp
    generalize hWn : World.alloc V1 _ = V2
    have hb : Below V1.heap.size V1 V2 := by rw [← hWn]; exact oalloc _ _
    have HQ2 : Hid (V2.heap[V1.heap.size]? = some (.cells #[.int .i64 0, .int .i64 0, .int .i64 0, .int .i64 0] 71 (0, 0))) := by unfold Hid; rw [← hWn]; exact blk_new V1 _ _
    have hH1 := hHeld.next hb
    have HB2 := Lib.hid (HB1.out.trans (hb.mono HB1.out.size))
    have HQL := Lib.hid HB1.out.size
    refine hK.out _ _ hH1 (fun hHeld => ?_)
    clear hK K hb hH1 hWn HB1
    refine wpAnyH_ready (rs := [13]) (by kernel_rfl) (by simp) ?_
    refine AllReadyH.cons rfl (fun K hK => ?_) AllReadyH.nil
    obtain ⟨x0, x1, x2, x3, f0, f1, f2, f3, hq⟩ := four_new HQ2.out (.int .i64 d0) (.int .i64 d1) (.int .i64 d2) (.int .i64 d3)
    have HX := Lib.hid hq
    have hb := four_bel (Below.refl W.heap.size V2) HQL.out (.int .i64 d0) (.int .i64 d1) (.int .i64 d2) (.int .i64 d3)
    have HBX := Lib.hid (HB2.out.trans hb)
    have hMX := HW.out.next HBX.out
    clear hq hb
    go_simp
    refine hK.out _ _ hMX (fun hHeld => ?_)
    clear hK K hMX x0 x1 x2 x3 f0 f1 f2 f3 HB2 HQ2
    generalize (((World.setCell V2 ⟨V1.heap.size, 0, none⟩ (.int .i64 d0)).setCell ⟨V1.heap.size, 1, none⟩ (.int .i64 d1)).setCell ⟨V1.heap.size, 2, none⟩ (.int .i64 d2)).setCell ⟨V1.heap.size, 3, none⟩ (.int .i64 d3) = X at *
    generalize V1.heap.size = q at *
    refine take_at 14 5 (v := ?_) rfl rfl (by kernel_rfl) (by kernel_rfl) (by kernel_rfl) (fun _ _ _ h => h) rfl ?_ hHeld ?_
    rotate_left
    · intro w hSw
      go_simp
      try with_reducible rfl
    simp only [List.setIfInBounds_toArray, List.set_cons_zero, List.set_cons_succ]
    refine wpAnyH_done (by kernel_rfl) ?_ _
    refine NoPanic.normal ?_
    go_wp2
    go_ret2
    refine ⟨by rw [HD.out, HE.out]; rfl, HKN.out _ HBX.out, fun h0 => absurd (HE.out.symm.trans h0) HN.out⟩
  · go_simp
    generalize hWn : World.alloc V0 _ = V1
    have hb : Below V0.heap.size V0 V1 := by rw [← hWn]; exact oalloc _ _
    have HQ1 : Hid (V1.heap[V0.heap.size]? = some (.cells #[.int .i64 0, .int .i64 0, .int .i64 0, .int .i64 0] 71 (0, 0))) := by unfold Hid; rw [← hWn]; exact blk_new V0 _ _
    have hH1 := hHeld.next hb
    have HB1 := Lib.hid (HB0.out.trans (hb.mono HB0.out.size))
    have HQL := Lib.hid HB0.out.size
    refine hK.out _ _ hH1 (fun hHeld => ?_)
    clear hK K hb hH1 hWn HB0
    refine wpAnyH_ready (rs := [8]) (by kernel_rfl) (by simp) ?_
    refine AllReadyH.cons rfl (fun K hK => ?_) AllReadyH.nil
    go_simp
    refine (HI.out V1 hHeld HB1.out).mono ?_
    rintro e V2 ⟨rfl, hb⟩
    have hH1 := hHeld.next hb
    have HB2 := Lib.hid (HB1.out.trans (hb.mono HB1.out.size))
    have HQ2 := Lib.hid ((hb.block _ (Array.getElem?_eq_some_iff.1 HQ1.out).1).trans HQ1.out)
    refine hK.out _ _ hH1 (fun hHeld => ?_)
    clear hK K hb hH1 HB1 HQ1
    refine take_at 9 6 (v := ?_) rfl rfl (by kernel_rfl) (by kernel_rfl) (by kernel_rfl) (fun _ _ _ h => h) rfl ?_ hHeld ?_
    rotate_left
    · intro w hSw
      go_simp
      try with_reducible rfl
    simp only [List.setIfInBounds_toArray, List.set_cons_zero, List.set_cons_succ]
    refine take_at 10 16 (v := ?_) rfl rfl (by kernel_rfl) (by kernel_rfl) (by kernel_rfl) (fun _ _ _ h => h) rfl ?_ hHeld ?_
    rotate_left
    · intro w hSw
      go_simp
      try with_reducible rfl
    simp only [List.setIfInBounds_toArray, List.set_cons_zero, List.set_cons_succ]
    refine take_at 11 17 (v := ?_) rfl rfl (by kernel_rfl) (by kernel_rfl) (by kernel_rfl) (fun _ _ _ h => h) rfl ?_ hHeld ?_
    rotate_left
    · intro w hSw
      go_simp
      try with_reducible rfl
    simp only [List.setIfInBounds_toArray, List.set_cons_zero, List.set_cons_succ]
    refine wpAnyH_ready (rs := [13]) (by kernel_rfl) (by simp) ?_
    refine AllReadyH.cons rfl (fun K hK => ?_) AllReadyH.nil
    obtain ⟨x0, x1, x2, x3, f0, f1, f2, f3, hq⟩ := four_new HQ2.out (.int .i64 d0) (.int .i64 d1) (.int .i64 d2) (.int .i64 d3)
    have HX := Lib.hid hq
    have hb := four_bel (Below.refl W.heap.size V2) HQL.out (.int .i64 d0) (.int .i64 d1) (.int .i64 d2) (.int .i64 d3)
    have HBX := Lib.hid (HB2.out.trans hb)
    have hMX := HW.out.next HBX.out
    clear hq hb
    go_simp
    refine hK.out _ _ hMX (fun hHeld => ?_)
    clear hK K hMX x0 x1 x2 x3 f0 f1 f2 f3 HB2 HQ2
    generalize (((World.setCell V2 ⟨V0.heap.size, 0, none⟩ (.int .i64 d0)).setCell ⟨V0.heap.size, 1, none⟩ (.int .i64 d1)).setCell ⟨V0.heap.size, 2, none⟩ (.int .i64 d2)).setCell ⟨V0.heap.size, 3, none⟩ (.int .i64 d3) = X at *
    generalize V0.heap.size = q at *
    refine take_at 14 5 (v := ?_) rfl rfl (by kernel_rfl) (by kernel_rfl) (by kernel_rfl) (fun _ _ _ h => h) rfl ?_ hHeld ?_
    rotate_left
    · intro w hSw
      go_simp
      try with_reducible rfl
    simp only [List.setIfInBounds_toArray, List.set_cons_zero, List.set_cons_succ]
    refine wpAnyH_done (by kernel_rfl) ?_ _
    refine NoPanic.normal ?_
    go_wp2
    go_ret2
    refine ⟨by rw [HD.out, HE.out]; rfl, HKN.out _ HBX.out, fun h0 => absurd (HE.out.symm.trans h0) HN.out⟩

set_option maxHeartbeats 8000000 in
set_option maxRecDepth 100000 in
theorem step_fin (K g : Nat) (m : Ma) (gb bc : Nat) (s0 : Option Addr) (s1 s2 : Nat) (ta : Option Addr) (tc : Nat) (k : Nat) (W : World) (h : MR K g m gb bc (.slice s0 s1 s2) ta tc W) (hR : Runs m k) (hk : k ≤ 100000) (hbc : m.by'.length ≤ bc) (he : fetchE m m.pc = 0) (hend : fV m m.pc 0 = 27 ∧ fV m m.pc 3 = 0) :
    Calls Tryz.prog 16 #[.pointer (some ⟨g, 0, none⟩)] W (SpPost K g gb bc (.slice s0 s1 s2) m W) := by
  have hused := hbc
  clear hused
  have hM := hR.mok hk
  obtain ⟨hpc0, hpc1⟩ := hR.pc
  have hst0 := hR.st0
  have hst1 := hR.st1
  have HI : Hid (∀ X, MR K g m gb bc (.slice s0 s1 s2) ta tc X → Below W.heap.size W X → Calls Tryz.prog 26 #[.agg #[.int .i64 m.base, .slice (some ⟨gb, 0, none⟩) m.by'.length bc, .slice s0 s1 s2], .int .i64 m.pc] X fun e w' => e = .returned (.tuple #[.agg #[.int .i64 (fV m m.pc 0), .int .i64 (fV m m.pc 1), .int .i64 (fV m m.pc 2), .int .i64 (fV m m.pc 3)], .int .i64 (fetchE m m.pc)]) ∧ Below X.heap.size X w') := fun X hX _ => instr_any m (some ⟨gb, 0, none⟩) bc (.slice s0 s1 s2) m.pc X hX.brd hX.la hM.b0 hM.b1 (by have := hM.bl; omega) (by omega) (by omega)
  have HKN : Hid (∀ X, Below W.heap.size W X → Kept K g gb W X) := fun X hX => h.kn hX
  have HLE := Lib.hid oleads_any
  have HW := Lib.hid h
  have hH0 := h.next (W' := W.drew) (Below.refl _ _).drew
  have HB0 := Lib.hid ((Below.refl W.heap.size W).drew)
  obtain ⟨s1', s2', s3'⟩ := stepZ he hend
  have HE := Lib.hid s1'
  have HMM := Lib.hid s2'
  have HD : Hid ((if stepE m = 0 then stepD m else false) = true) := by unfold Hid; rw [if_pos s1', s3']
  rw [he] at HI
  have ho1 : 27 ≤ fV m m.pc 0 := by omega
  have ho2 : fV m m.pc 0 ≤ 27 := by omega
  have ho3 : 0 ≤ fV m m.pc 3 := by omega
  have ho4 : fV m m.pc 3 ≤ 0 := by omega
  clear h hR hM HLE he hend s1' s2' s3'
  generalize fV m m.pc 0 = d0 at *
  generalize fV m m.pc 1 = d1 at *
  generalize fV m m.pc 2 = d2 at *
  generalize fV m m.pc 3 = d3 at *
  go_enter Tryz.func16, Tryz.ntmps16
  go_upto_region 1 with fail
  refine wp_region_noPanic ?_
  refine wp_region_held_drew (S := fun w' => MR K g m gb bc (.slice s0 s1 s2) ta tc w') (by kernel_rfl) hH0 (fun hHeld => ?_)
  clear hH0
  generalize W.drew = V0 at *
  refine take_at 0 7 (v := ?_) rfl rfl (by kernel_rfl) (by kernel_rfl) (by kernel_rfl) (fun _ _ _ h => h) rfl ?_ hHeld ?_
  rotate_left
  · intro w hSw
    go_simp
    try with_reducible rfl
  simp only [List.setIfInBounds_toArray, List.set_cons_zero, List.set_cons_succ]
  refine take_at 1 8 (v := ?_) rfl rfl (by kernel_rfl) (by kernel_rfl) (by kernel_rfl) (fun _ _ _ h => h) rfl ?_ hHeld ?_
  rotate_left
  · intro w hSw
    go_simp
    try with_reducible rfl
  simp only [List.setIfInBounds_toArray, List.set_cons_zero, List.set_cons_succ]
  refine take_at 2 9 (v := ?_) rfl rfl (by kernel_rfl) (by kernel_rfl) (by kernel_rfl) (fun _ _ _ h => h) rfl ?_ hHeld ?_
  rotate_left
  · intro w hSw
    go_simp
    try with_reducible rfl
  simp only [List.setIfInBounds_toArray, List.set_cons_zero, List.set_cons_succ]
  refine take_at 3 10 (v := ?_) rfl rfl (by kernel_rfl) (by kernel_rfl) (by kernel_rfl) (fun _ _ _ h => h) rfl ?_ hHeld ?_
  rotate_left
  · intro w hSw
    have y0 := hSw.cells.2.2.2.1
    have y1 := hSw.cells.2.2.2.2.1
    have y2 := hSw.cells.2.2.2.2.2.1
    go_simp
    try with_reducible rfl
  simp only [List.setIfInBounds_toArray, List.set_cons_zero, List.set_cons_succ]
  refine take_at 4 11 (v := ?_) rfl rfl (by kernel_rfl) (by kernel_rfl) (by kernel_rfl) (fun _ _ _ h => h) rfl ?_ hHeld ?_
  rotate_left
  · intro w hSw
    go_simp
    try with_reducible rfl
  simp only [List.setIfInBounds_toArray, List.set_cons_zero, List.set_cons_succ]
  refine take_at 5 12 (v := ?_) rfl rfl (by kernel_rfl) (by kernel_rfl) (by kernel_rfl) (fun _ _ _ h => h) rfl ?_ hHeld ?_
  rotate_left
  · intro w hSw
    go_simp
    try with_reducible rfl
  simp only [List.setIfInBounds_toArray, List.set_cons_zero, List.set_cons_succ]
  refine take_at 6 13 (v := ?_) rfl rfl (by kernel_rfl) (by kernel_rfl) (by kernel_rfl) (fun _ _ _ h => h) rfl ?_ hHeld ?_
  rotate_left
  · intro w hSw
    go_simp
    try with_reducible rfl
  simp only [List.setIfInBounds_toArray, List.set_cons_zero, List.set_cons_succ]
  refine take_at 7 14 (v := ?_) rfl rfl (by kernel_rfl) (by kernel_rfl) (by kernel_rfl) (fun _ _ _ h => h) rfl ?_ hHeld ?_
  rotate_left
  · intro w hSw
    have y := hSw.cells.2.1
    go_simp
    try with_reducible rfl
  simp only [List.setIfInBounds_toArray, List.set_cons_zero, List.set_cons_succ]
  refine wpAnyH_ready (rs := [8, 12]) (by kernel_rfl) (by simp) ?_
  refine AllReadyH.cons rfl (fun K hK => ?_) (AllReadyH.cons rfl (fun K hK => ?_) AllReadyH.nil)
  · go_simp
    refine (HI.out V0 hHeld HB0.out).mono ?_
    rintro e V1 ⟨rfl, hb⟩
    have hH1 := hHeld.next hb
    have HB1 := Lib.hid (HB0.out.trans (hb.mono HB0.out.size))
    refine hK.out _ _ hH1 (fun hHeld => ?_)
    clear hK K hb hH1 HB0
    refine take_at 9 6 (v := ?_) rfl rfl (by kernel_rfl) (by kernel_rfl) (by kernel_rfl) (fun _ _ _ h => h) rfl ?_ hHeld ?_
    rotate_left
    · intro w hSw
      go_simp
      try with_reducible rfl
    simp only [List.setIfInBounds_toArray, List.set_cons_zero, List.set_cons_succ]
    refine take_at 10 16 (v := ?_) rfl rfl (by kernel_rfl) (by kernel_rfl) (by kernel_rfl) (fun _ _ _ h => h) rfl ?_ hHeld ?_
    rotate_left
    · intro w hSw
      go_simp
      try with_reducible rfl
    simp only [List.setIfInBounds_toArray, List.set_cons_zero, List.set_cons_succ]
    refine take_at 11 17 (v := ?_) rfl rfl (by kernel_rfl) (by kernel_rfl) (by kernel_rfl) (fun _ _ _ h => h) rfl ?_ hHeld ?_
    rotate_left
    · intro w hSw
      go_simp
      try with_reducible rfl
    simp only [List.setIfInBounds_toArray, List.set_cons_zero, List.set_cons_succ]
    refine wpAnyH_ready (rs := [12]) (by kernel_rfl) (by simp) ?_
    refine AllReadyH.cons rfl (fun K hK => ?_) AllReadyH.nil
    go_simp
    generalize hWn : World.alloc V1 _ = V2
    have hb : Below V1.heap.size V1 V2 := by rw [← hWn]; exact oalloc _ _
    have HQ2 : Hid (V2.heap[V1.heap.size]? = some (.cells #[.int .i64 0, .int .i64 0, .int .i64 0, .int .i64 0] 71 (0, 0))) := by unfold Hid; rw [← hWn]; exact blk_new V1 _ _
    have hH1 := hHeld.next hb
    have HB2 := Lib.hid (HB1.out.trans (hb.mono HB1.out.size))
    have HQL := Lib.hid HB1.out.size
    refine hK.out _ _ hH1 (fun hHeld => ?_)
    clear hK K hb hH1 hWn HB1
    refine wpAnyH_ready (rs := [13]) (by kernel_rfl) (by simp) ?_
    refine AllReadyH.cons rfl (fun K hK => ?_) AllReadyH.nil
    obtain ⟨x0, x1, x2, x3, f0, f1, f2, f3, hq⟩ := four_new HQ2.out (.int .i64 d0) (.int .i64 d1) (.int .i64 d2) (.int .i64 d3)
    have HX := Lib.hid hq
    have hb := four_bel (Below.refl W.heap.size V2) HQL.out (.int .i64 d0) (.int .i64 d1) (.int .i64 d2) (.int .i64 d3)
    have HBX := Lib.hid (HB2.out.trans hb)
    have hMX := HW.out.next HBX.out
    clear hq hb
    go_simp
    refine hK.out _ _ hMX (fun hHeld => ?_)
    clear hK K hMX x0 x1 x2 x3 f0 f1 f2 f3 HB2 HQ2
    generalize (((World.setCell V2 ⟨V1.heap.size, 0, none⟩ (.int .i64 d0)).setCell ⟨V1.heap.size, 1, none⟩ (.int .i64 d1)).setCell ⟨V1.heap.size, 2, none⟩ (.int .i64 d2)).setCell ⟨V1.heap.size, 3, none⟩ (.int .i64 d3) = X at *
    generalize V1.heap.size = q at *
    refine take_at 14 5 (v := ?_) rfl rfl (by kernel_rfl) (by kernel_rfl) (by kernel_rfl) (fun _ _ _ h => h) rfl ?_ hHeld ?_
    rotate_left
    · intro w hSw
      go_simp
      try with_reducible rfl
    simp only [List.setIfInBounds_toArray, List.set_cons_zero, List.set_cons_succ]
    refine wpAnyH_done (by kernel_rfl) ?_ _
    refine NoPanic.normal ?_
    have hqg := box_ne hHeld HX.out
    have hgq : g ≠ q := fun e => hqg e.symm
    have y0 := cell_of_block (i := 0) HX.out rfl
    have y1 := cell_of_block (i := 1) HX.out rfl
    have y2 := cell_of_block (i := 2) HX.out rfl
    have y3 := cell_of_block (i := 3) HX.out rfl
    have x23 := hHeld.cells.2.2.2.2.2.2.2
    have xf := hHeld.fz 23
    have HMX := Lib.hid (hHeld.setst (m.st + 1))
    clear hHeld
    go_wp2
    go_ret2
    exact ⟨by rw [HD.out, HE.out]; rfl, (HKN.out _ HBX.out).trans (Kept.cell ⟨g, 23, none⟩ _), fun _ => ⟨_, _, by rw [HMM.out]; exact HMX.out⟩⟩
  · go_simp
    generalize hWn : World.alloc V0 _ = V1
    have hb : Below V0.heap.size V0 V1 := by rw [← hWn]; exact oalloc _ _
    have HQ1 : Hid (V1.heap[V0.heap.size]? = some (.cells #[.int .i64 0, .int .i64 0, .int .i64 0, .int .i64 0] 71 (0, 0))) := by unfold Hid; rw [← hWn]; exact blk_new V0 _ _
    have hH1 := hHeld.next hb
    have HB1 := Lib.hid (HB0.out.trans (hb.mono HB0.out.size))
    have HQL := Lib.hid HB0.out.size
    refine hK.out _ _ hH1 (fun hHeld => ?_)
    clear hK K hb hH1 hWn HB0
    refine wpAnyH_ready (rs := [8]) (by kernel_rfl) (by simp) ?_
    refine AllReadyH.cons rfl (fun K hK => ?_) AllReadyH.nil
    go_simp
    refine (HI.out V1 hHeld HB1.out).mono ?_
    rintro e V2 ⟨rfl, hb⟩
    have hH1 := hHeld.next hb
    have HB2 := Lib.hid (HB1.out.trans (hb.mono HB1.out.size))
    have HQ2 := Lib.hid ((hb.block _ (Array.getElem?_eq_some_iff.1 HQ1.out).1).trans HQ1.out)
    refine hK.out _ _ hH1 (fun hHeld => ?_)
    clear hK K hb hH1 HB1 HQ1
    refine take_at 9 6 (v := ?_) rfl rfl (by kernel_rfl) (by kernel_rfl) (by kernel_rfl) (fun _ _ _ h => h) rfl ?_ hHeld ?_
    rotate_left
    · intro w hSw
      go_simp
      try with_reducible rfl
    simp only [List.setIfInBounds_toArray, List.set_cons_zero, List.set_cons_succ]
    refine take_at 10 16 (v := ?_) rfl rfl (by kernel_rfl) (by kernel_rfl) (by kernel_rfl) (fun _ _ _ h => h) rfl ?_ hHeld ?_
    rotate_left
    · intro w hSw
      go_simp
      try with_reducible rfl
    simp only [List.setIfInBounds_toArray, List.set_cons_zero, List.set_cons_succ]
    refine take_at 11 17 (v := ?_) rfl rfl (by kernel_rfl) (by kernel_rfl) (by kernel_rfl) (fun _ _ _ h => h) rfl ?_ hHeld ?_
    rotate_left
    · intro w hSw
      go_simp
      try with_reducible rfl
    simp only [List.setIfInBounds_toArray, List.set_cons_zero, List.set_cons_succ]
    refine wpAnyH_ready (rs := [13]) (by kernel_rfl) (by simp) ?_
    refine AllReadyH.cons rfl (fun K hK => ?_) AllReadyH.nil
    obtain ⟨x0, x1, x2, x3, f0, f1, f2, f3, hq⟩ := four_new HQ2.out (.int .i64 d0) (.int .i64 d1) (.int .i64 d2) (.int .i64 d3)
    have HX := Lib.hid hq
    have hb := four_bel (Below.refl W.heap.size V2) HQL.out (.int .i64 d0) (.int .i64 d1) (.int .i64 d2) (.int .i64 d3)
    have HBX := Lib.hid (HB2.out.trans hb)
    have hMX := HW.out.next HBX.out
    clear hq hb
    go_simp
    refine hK.out _ _ hMX (fun hHeld => ?_)
    clear hK K hMX x0 x1 x2 x3 f0 f1 f2 f3 HB2 HQ2
    generalize (((World.setCell V2 ⟨V0.heap.size, 0, none⟩ (.int .i64 d0)).setCell ⟨V0.heap.size, 1, none⟩ (.int .i64 d1)).setCell ⟨V0.heap.size, 2, none⟩ (.int .i64 d2)).setCell ⟨V0.heap.size, 3, none⟩ (.int .i64 d3) = X at *
    generalize V0.heap.size = q at *
    refine take_at 14 5 (v := ?_) rfl rfl (by kernel_rfl) (by kernel_rfl) (by kernel_rfl) (fun _ _ _ h => h) rfl ?_ hHeld ?_
    rotate_left
    · intro w hSw
      go_simp
      try with_reducible rfl
    simp only [List.setIfInBounds_toArray, List.set_cons_zero, List.set_cons_succ]
    refine wpAnyH_done (by kernel_rfl) ?_ _
    refine NoPanic.normal ?_
    have hqg := box_ne hHeld HX.out
    have hgq : g ≠ q := fun e => hqg e.symm
    have y0 := cell_of_block (i := 0) HX.out rfl
    have y1 := cell_of_block (i := 1) HX.out rfl
    have y2 := cell_of_block (i := 2) HX.out rfl
    have y3 := cell_of_block (i := 3) HX.out rfl
    have x23 := hHeld.cells.2.2.2.2.2.2.2
    have xf := hHeld.fz 23
    have HMX := Lib.hid (hHeld.setst (m.st + 1))
    clear hHeld
    go_wp2
    go_ret2
    exact ⟨by rw [HD.out, HE.out]; rfl, (HKN.out _ HBX.out).trans (Kept.cell ⟨g, 23, none⟩ _), fun _ => ⟨_, _, by rw [HMM.out]; exact HMX.out⟩⟩

set_option maxHeartbeats 8000000 in
set_option maxRecDepth 100000 in
theorem step_lead (K g : Nat) (m : Ma) (gb bc : Nat) (s0 : Option Addr) (s1 s2 : Nat) (ta : Option Addr) (tc : Nat) (k : Nat) (W : World) (h : MR K g m gb bc (.slice s0 s1 s2) ta tc W) (hR : Runs m k) (hk : k ≤ 100000) (hbc : m.by'.length ≤ bc) (he : fetchE m m.pc = 0) (hl : leadsB (fV m m.pc 0) = true) (hres : ¬ (fV m m.pc 0 = 17 ∨ fV m m.pc 0 = 18) → Res (fV m (m.pc + 2) 0)) :
    Calls Tryz.prog 16 #[.pointer (some ⟨g, 0, none⟩)] W (SpPost K g gb bc (.slice s0 s1 s2) m W) := by
  have hused := hbc
  clear hused
  have hM := hR.mok hk
  obtain ⟨hpc0, hpc1⟩ := hR.pc
  have hst0 := hR.st0
  have hst1 := hR.st1
  have HI : Hid (∀ X, MR K g m gb bc (.slice s0 s1 s2) ta tc X → Below W.heap.size W X → Calls Tryz.prog 26 #[.agg #[.int .i64 m.base, .slice (some ⟨gb, 0, none⟩) m.by'.length bc, .slice s0 s1 s2], .int .i64 m.pc] X fun e w' => e = .returned (.tuple #[.agg #[.int .i64 (fV m m.pc 0), .int .i64 (fV m m.pc 1), .int .i64 (fV m m.pc 2), .int .i64 (fV m m.pc 3)], .int .i64 (fetchE m m.pc)]) ∧ Below X.heap.size X w') := fun X hX _ => instr_any m (some ⟨gb, 0, none⟩) bc (.slice s0 s1 s2) m.pc X hX.brd hX.la hM.b0 hM.b1 (by have := hM.bl; omega) (by omega) (by omega)
  have HKN : Hid (∀ X, Below W.heap.size W X → Kept K g gb W X) := fun X hX => h.kn hX
  have HLE := Lib.hid oleads_any
  have HW := Lib.hid h
  have hH0 := h.next (W' := W.drew) (Below.refl _ _).drew
  have HB0 := Lib.hid ((Below.refl W.heap.size W).drew)
  obtain ⟨s1', s2', s3'⟩ := stepL he hl
  obtain ⟨b1, b2, b3, b4, b5, b6⟩ := fV_bd m m.pc
  have hnear := fetch_near hR he
  have hop : fV m m.pc 0 = 2 ∨ (17 ≤ fV m m.pc 0 ∧ fV m m.pc 0 ≤ 22) := by
    unfold leadsB at hl
    simp at hl
    omega
  have HLD : Hid (∀ X, Below W.heap.size W X → Calls Tryz.prog 28 #[.pointer (some ⟨g, 0, none⟩), .agg #[.int .i64 (fV m m.pc 0), .int .i64 (fV m m.pc 1), .int .i64 (fV m m.pc 2), .int .i64 (fV m m.pc 3)]] (X.setCell ⟨g, 23, none⟩ (.int .i64 (m.st + 1))) fun e W' => e = .returned (.int .i64 (stepE m)) ∧ Kept K g gb W W' ∧ (stepE m = 0 → ∃ ta' tc', MR K g (stepM m) gb bc (.slice s0 s1 s2) ta' tc' W')) := fun X hX => by
    rw [s1', s2']
    exact (lead_any K g { m with st := m.st + 1 } gb bc s0 s1 s2 ta tc _ _ _ _ _ ((h.next hX).setst (m.st + 1)) ⟨hM.b0, hM.b1, hM.bl, hM.tl⟩ hR.reg hbc hnear.1 hnear.2 b5 b6 b1 b2 hop hres).mono fun _ _ ⟨h1, h2, h3⟩ => ⟨h1, (h.keepSet hX 23 _).trans h2, h3⟩
  clear hres
  have HD : Hid ((if stepE m = 0 then stepD m else false) = false) := by unfold Hid; rw [s3']; simp
  have HL : Hid (∀ X, Calls Tryz.prog 27 #[.int .i64 (fV m m.pc 0)] X fun e w' => e = .returned (.bool true) ∧ X = w') := fun X => by
    have := HLE.out (fV m m.pc 0) X
    rw [hl] at this
    exact this
  rw [he] at HI
  have h27b : (fV m m.pc 0 == 27) = false := by simp; omega
  unfold SpPost
  clear h hR hM HLE he hl s1' s2' s3' b1 b2 b3 b4 b5 b6 hnear hop
  generalize (if stepE m = 0 then stepD m else false) = DD at *
  generalize stepE m = EE at *
  generalize stepM m = MM at *
  generalize fV m m.pc 0 = d0 at *
  generalize fV m m.pc 1 = d1 at *
  generalize fV m m.pc 2 = d2 at *
  generalize fV m m.pc 3 = d3 at *
  go_enter Tryz.func16, Tryz.ntmps16
  go_upto_region 1 with fail
  refine wp_region_noPanic ?_
  refine wp_region_held_drew (S := fun w' => MR K g m gb bc (.slice s0 s1 s2) ta tc w') (by kernel_rfl) hH0 (fun hHeld => ?_)
  clear hH0
  generalize W.drew = V0 at *
  refine take_at 0 7 (v := ?_) rfl rfl (by kernel_rfl) (by kernel_rfl) (by kernel_rfl) (fun _ _ _ h => h) rfl ?_ hHeld ?_
  rotate_left
  · intro w hSw
    go_simp
    try with_reducible rfl
  simp only [List.setIfInBounds_toArray, List.set_cons_zero, List.set_cons_succ]
  refine take_at 1 8 (v := ?_) rfl rfl (by kernel_rfl) (by kernel_rfl) (by kernel_rfl) (fun _ _ _ h => h) rfl ?_ hHeld ?_
  rotate_left
  · intro w hSw
    go_simp
    try with_reducible rfl
  simp only [List.setIfInBounds_toArray, List.set_cons_zero, List.set_cons_succ]
  refine take_at 2 9 (v := ?_) rfl rfl (by kernel_rfl) (by kernel_rfl) (by kernel_rfl) (fun _ _ _ h => h) rfl ?_ hHeld ?_
  rotate_left
  · intro w hSw
    go_simp
    try with_reducible rfl
  simp only [List.setIfInBounds_toArray, List.set_cons_zero, List.set_cons_succ]
  refine take_at 3 10 (v := ?_) rfl rfl (by kernel_rfl) (by kernel_rfl) (by kernel_rfl) (fun _ _ _ h => h) rfl ?_ hHeld ?_
  rotate_left
  · intro w hSw
    have y0 := hSw.cells.2.2.2.1
    have y1 := hSw.cells.2.2.2.2.1
    have y2 := hSw.cells.2.2.2.2.2.1
    go_simp
    try with_reducible rfl
  simp only [List.setIfInBounds_toArray, List.set_cons_zero, List.set_cons_succ]
  refine take_at 4 11 (v := ?_) rfl rfl (by kernel_rfl) (by kernel_rfl) (by kernel_rfl) (fun _ _ _ h => h) rfl ?_ hHeld ?_
  rotate_left
  · intro w hSw
    go_simp
    try with_reducible rfl
  simp only [List.setIfInBounds_toArray, List.set_cons_zero, List.set_cons_succ]
  refine take_at 5 12 (v := ?_) rfl rfl (by kernel_rfl) (by kernel_rfl) (by kernel_rfl) (fun _ _ _ h => h) rfl ?_ hHeld ?_
  rotate_left
  · intro w hSw
    go_simp
    try with_reducible rfl
  simp only [List.setIfInBounds_toArray, List.set_cons_zero, List.set_cons_succ]
  refine take_at 6 13 (v := ?_) rfl rfl (by kernel_rfl) (by kernel_rfl) (by kernel_rfl) (fun _ _ _ h => h) rfl ?_ hHeld ?_
  rotate_left
  · intro w hSw
    go_simp
    try with_reducible rfl
  simp only [List.setIfInBounds_toArray, List.set_cons_zero, List.set_cons_succ]
  refine take_at 7 14 (v := ?_) rfl rfl (by kernel_rfl) (by kernel_rfl) (by kernel_rfl) (fun _ _ _ h => h) rfl ?_ hHeld ?_
  rotate_left
  · intro w hSw
    have y := hSw.cells.2.1
    go_simp
    try with_reducible rfl
  simp only [List.setIfInBounds_toArray, List.set_cons_zero, List.set_cons_succ]
  refine wpAnyH_ready (rs := [8, 12]) (by kernel_rfl) (by simp) ?_
  refine AllReadyH.cons rfl (fun K hK => ?_) (AllReadyH.cons rfl (fun K hK => ?_) AllReadyH.nil)
  · go_simp
    refine (HI.out V0 hHeld HB0.out).mono ?_
    rintro e V1 ⟨rfl, hb⟩
    have hH1 := hHeld.next hb
    have HB1 := Lib.hid (HB0.out.trans (hb.mono HB0.out.size))
    refine hK.out _ _ hH1 (fun hHeld => ?_)
    clear hK K hb hH1 HB0
    refine take_at 9 6 (v := ?_) rfl rfl (by kernel_rfl) (by kernel_rfl) (by kernel_rfl) (fun _ _ _ h => h) rfl ?_ hHeld ?_
    rotate_left
    · intro w hSw
      go_simp
      try with_reducible rfl
    simp only [List.setIfInBounds_toArray, List.set_cons_zero, List.set_cons_succ]
    refine take_at 10 16 (v := ?_) rfl rfl (by kernel_rfl) (by kernel_rfl) (by kernel_rfl) (fun _ _ _ h => h) rfl ?_ hHeld ?_
    rotate_left
    · intro w hSw
      go_simp
      try with_reducible rfl
    simp only [List.setIfInBounds_toArray, List.set_cons_zero, List.set_cons_succ]
    refine take_at 11 17 (v := ?_) rfl rfl (by kernel_rfl) (by kernel_rfl) (by kernel_rfl) (fun _ _ _ h => h) rfl ?_ hHeld ?_
    rotate_left
    · intro w hSw
      go_simp
      try with_reducible rfl
    simp only [List.setIfInBounds_toArray, List.set_cons_zero, List.set_cons_succ]
    refine wpAnyH_ready (rs := [12]) (by kernel_rfl) (by simp) ?_
    refine AllReadyH.cons rfl (fun K hK => ?_) AllReadyH.nil
    go_simp
    generalize hWn : World.alloc V1 _ = V2
    have hb : Below V1.heap.size V1 V2 := by rw [← hWn]; exact oalloc _ _
    have HQ2 : Hid (V2.heap[V1.heap.size]? = some (.cells #[.int .i64 0, .int .i64 0, .int .i64 0, .int .i64 0] 71 (0, 0))) := by unfold Hid; rw [← hWn]; exact blk_new V1 _ _
    have hH1 := hHeld.next hb
    have HB2 := Lib.hid (HB1.out.trans (hb.mono HB1.out.size))
    have HQL := Lib.hid HB1.out.size
    refine hK.out _ _ hH1 (fun hHeld => ?_)
    clear hK K hb hH1 hWn HB1
    refine wpAnyH_ready (rs := [13]) (by kernel_rfl) (by simp) ?_
    refine AllReadyH.cons rfl (fun K hK => ?_) AllReadyH.nil
    obtain ⟨x0, x1, x2, x3, f0, f1, f2, f3, hq⟩ := four_new HQ2.out (.int .i64 d0) (.int .i64 d1) (.int .i64 d2) (.int .i64 d3)
    have HX := Lib.hid hq
    have hb := four_bel (Below.refl W.heap.size V2) HQL.out (.int .i64 d0) (.int .i64 d1) (.int .i64 d2) (.int .i64 d3)
    have HBX := Lib.hid (HB2.out.trans hb)
    have hMX := HW.out.next HBX.out
    clear hq hb
    go_simp
    refine hK.out _ _ hMX (fun hHeld => ?_)
    clear hK K hMX x0 x1 x2 x3 f0 f1 f2 f3 HB2 HQ2
    generalize (((World.setCell V2 ⟨V1.heap.size, 0, none⟩ (.int .i64 d0)).setCell ⟨V1.heap.size, 1, none⟩ (.int .i64 d1)).setCell ⟨V1.heap.size, 2, none⟩ (.int .i64 d2)).setCell ⟨V1.heap.size, 3, none⟩ (.int .i64 d3) = X at *
    generalize V1.heap.size = q at *
    refine take_at 14 5 (v := ?_) rfl rfl (by kernel_rfl) (by kernel_rfl) (by kernel_rfl) (fun _ _ _ h => h) rfl ?_ hHeld ?_
    rotate_left
    · intro w hSw
      go_simp
      try with_reducible rfl
    simp only [List.setIfInBounds_toArray, List.set_cons_zero, List.set_cons_succ]
    refine wpAnyH_done (by kernel_rfl) ?_ _
    refine NoPanic.normal ?_
    have hqg := box_ne hHeld HX.out
    have hgq : g ≠ q := fun e => hqg e.symm
    have y0 := cell_of_block (i := 0) HX.out rfl
    have y1 := cell_of_block (i := 1) HX.out rfl
    have y2 := cell_of_block (i := 2) HX.out rfl
    have y3 := cell_of_block (i := 3) HX.out rfl
    have x23 := hHeld.cells.2.2.2.2.2.2.2
    have xf := hHeld.fz 23
    clear hHeld
    go_wp2_with (first | (go_at_call 27; refine (HL.out _).mono ?_; rintro e w' ⟨rfl, rfl⟩) | (go_at_call 28; refine (HLD.out _ HBX.out).mono ?_; rintro e W2 ⟨rfl, hk2, hm2⟩; have HK2 := Lib.hid hk2; have HM2 := Lib.hid hm2; clear hk2 hm2) | fail)
    go_ret2
    exact ⟨by rw [HD.out]; rfl, HK2.out, HM2.out⟩
  · go_simp
    generalize hWn : World.alloc V0 _ = V1
    have hb : Below V0.heap.size V0 V1 := by rw [← hWn]; exact oalloc _ _
    have HQ1 : Hid (V1.heap[V0.heap.size]? = some (.cells #[.int .i64 0, .int .i64 0, .int .i64 0, .int .i64 0] 71 (0, 0))) := by unfold Hid; rw [← hWn]; exact blk_new V0 _ _
    have hH1 := hHeld.next hb
    have HB1 := Lib.hid (HB0.out.trans (hb.mono HB0.out.size))
    have HQL := Lib.hid HB0.out.size
    refine hK.out _ _ hH1 (fun hHeld => ?_)
    clear hK K hb hH1 hWn HB0
    refine wpAnyH_ready (rs := [8]) (by kernel_rfl) (by simp) ?_
    refine AllReadyH.cons rfl (fun K hK => ?_) AllReadyH.nil
    go_simp
    refine (HI.out V1 hHeld HB1.out).mono ?_
    rintro e V2 ⟨rfl, hb⟩
    have hH1 := hHeld.next hb
    have HB2 := Lib.hid (HB1.out.trans (hb.mono HB1.out.size))
    have HQ2 := Lib.hid ((hb.block _ (Array.getElem?_eq_some_iff.1 HQ1.out).1).trans HQ1.out)
    refine hK.out _ _ hH1 (fun hHeld => ?_)
    clear hK K hb hH1 HB1 HQ1
    refine take_at 9 6 (v := ?_) rfl rfl (by kernel_rfl) (by kernel_rfl) (by kernel_rfl) (fun _ _ _ h => h) rfl ?_ hHeld ?_
    rotate_left
    · intro w hSw
      go_simp
      try with_reducible rfl
    simp only [List.setIfInBounds_toArray, List.set_cons_zero, List.set_cons_succ]
    refine take_at 10 16 (v := ?_) rfl rfl (by kernel_rfl) (by kernel_rfl) (by kernel_rfl) (fun _ _ _ h => h) rfl ?_ hHeld ?_
    rotate_left
    · intro w hSw
      go_simp
      try with_reducible rfl
    simp only [List.setIfInBounds_toArray, List.set_cons_zero, List.set_cons_succ]
    refine take_at 11 17 (v := ?_) rfl rfl (by kernel_rfl) (by kernel_rfl) (by kernel_rfl) (fun _ _ _ h => h) rfl ?_ hHeld ?_
    rotate_left
    · intro w hSw
      go_simp
      try with_reducible rfl
    simp only [List.setIfInBounds_toArray, List.set_cons_zero, List.set_cons_succ]
    refine wpAnyH_ready (rs := [13]) (by kernel_rfl) (by simp) ?_
    refine AllReadyH.cons rfl (fun K hK => ?_) AllReadyH.nil
    obtain ⟨x0, x1, x2, x3, f0, f1, f2, f3, hq⟩ := four_new HQ2.out (.int .i64 d0) (.int .i64 d1) (.int .i64 d2) (.int .i64 d3)
    have HX := Lib.hid hq
    have hb := four_bel (Below.refl W.heap.size V2) HQL.out (.int .i64 d0) (.int .i64 d1) (.int .i64 d2) (.int .i64 d3)
    have HBX := Lib.hid (HB2.out.trans hb)
    have hMX := HW.out.next HBX.out
    clear hq hb
    go_simp
    refine hK.out _ _ hMX (fun hHeld => ?_)
    clear hK K hMX x0 x1 x2 x3 f0 f1 f2 f3 HB2 HQ2
    generalize (((World.setCell V2 ⟨V0.heap.size, 0, none⟩ (.int .i64 d0)).setCell ⟨V0.heap.size, 1, none⟩ (.int .i64 d1)).setCell ⟨V0.heap.size, 2, none⟩ (.int .i64 d2)).setCell ⟨V0.heap.size, 3, none⟩ (.int .i64 d3) = X at *
    generalize V0.heap.size = q at *
    refine take_at 14 5 (v := ?_) rfl rfl (by kernel_rfl) (by kernel_rfl) (by kernel_rfl) (fun _ _ _ h => h) rfl ?_ hHeld ?_
    rotate_left
    · intro w hSw
      go_simp
      try with_reducible rfl
    simp only [List.setIfInBounds_toArray, List.set_cons_zero, List.set_cons_succ]
    refine wpAnyH_done (by kernel_rfl) ?_ _
    refine NoPanic.normal ?_
    have hqg := box_ne hHeld HX.out
    have hgq : g ≠ q := fun e => hqg e.symm
    have y0 := cell_of_block (i := 0) HX.out rfl
    have y1 := cell_of_block (i := 1) HX.out rfl
    have y2 := cell_of_block (i := 2) HX.out rfl
    have y3 := cell_of_block (i := 3) HX.out rfl
    have x23 := hHeld.cells.2.2.2.2.2.2.2
    have xf := hHeld.fz 23
    clear hHeld
    go_wp2_with (first | (go_at_call 27; refine (HL.out _).mono ?_; rintro e w' ⟨rfl, rfl⟩) | (go_at_call 28; refine (HLD.out _ HBX.out).mono ?_; rintro e W2 ⟨rfl, hk2, hm2⟩; have HK2 := Lib.hid hk2; have HM2 := Lib.hid hm2; clear hk2 hm2) | fail)
    go_ret2
    exact ⟨by rw [HD.out]; rfl, HK2.out, HM2.out⟩

set_option maxHeartbeats 8000000 in
set_option maxRecDepth 100000 in
theorem step_pln (K g : Nat) (m : Ma) (gb bc : Nat) (s0 : Option Addr) (s1 s2 : Nat) (ta : Option Addr) (tc : Nat) (k : Nat) (W : World) (h : MR K g m gb bc (.slice s0 s1 s2) ta tc W) (hR : Runs m k) (hk : k ≤ 100000) (hbc : m.by'.length ≤ bc) (he : fetchE m m.pc = 0) (hend : ¬ (fV m m.pc 0 = 27 ∧ fV m m.pc 3 = 0)) (hl : leadsB (fV m m.pc 0) = false) (hres : Res (fV m m.pc 0)) :
    Calls Tryz.prog 16 #[.pointer (some ⟨g, 0, none⟩)] W (SpPost K g gb bc (.slice s0 s1 s2) m W) := by
  have hused := hbc
  clear hused
  have hM := hR.mok hk
  obtain ⟨hpc0, hpc1⟩ := hR.pc
  have hst0 := hR.st0
  have hst1 := hR.st1
  have HI : Hid (∀ X, MR K g m gb bc (.slice s0 s1 s2) ta tc X → Below W.heap.size W X → Calls Tryz.prog 26 #[.agg #[.int .i64 m.base, .slice (some ⟨gb, 0, none⟩) m.by'.length bc, .slice s0 s1 s2], .int .i64 m.pc] X fun e w' => e = .returned (.tuple #[.agg #[.int .i64 (fV m m.pc 0), .int .i64 (fV m m.pc 1), .int .i64 (fV m m.pc 2), .int .i64 (fV m m.pc 3)], .int .i64 (fetchE m m.pc)]) ∧ Below X.heap.size X w') := fun X hX _ => instr_any m (some ⟨gb, 0, none⟩) bc (.slice s0 s1 s2) m.pc X hX.brd hX.la hM.b0 hM.b1 (by have := hM.bl; omega) (by omega) (by omega)
  have HKN : Hid (∀ X, Below W.heap.size W X → Kept K g gb W X) := fun X hX => h.kn hX
  have HLE := Lib.hid oleads_any
  have HW := Lib.hid h
  have hH0 := h.next (W' := W.drew) (Below.refl _ _).drew
  have HB0 := Lib.hid ((Below.refl W.heap.size W).drew)
  obtain ⟨s1', s2', s3'⟩ := stepP he hend hl
  obtain ⟨b1, b2, b3, b4, b5, b6⟩ := fV_bd m m.pc
  have hnear := fetch_near hR he
  have hIn := fetch_in hM.b0 he
  have hop : fV m m.pc 0 = 1 ∨ (3 ≤ fV m m.pc 0 ∧ fV m m.pc 0 ≤ 16) ∨ (23 ≤ fV m m.pc 0 ∧ fV m m.pc 0 ≤ 27) := by
    unfold leadsB at hl
    simp at hl
    omega
  have HDO : Hid (∀ X, MR K g { m with st := m.st + 1 } gb bc (.slice s0 s1 s2) ta tc X → Calls Tryz.prog 29 #[.pointer (some ⟨g, 0, none⟩), .agg #[.int .i64 (fV m m.pc 0), .int .i64 (fV m m.pc 1), .int .i64 (fV m m.pc 2), .int .i64 (fV m m.pc 3)], .int .i64 m.pc] X fun e W' => e = .returned (.int .i64 (stepE m)) ∧ PP K K g gb bc (.slice s0 s1 s2) (plainM { m with st := m.st + 1 } (fV m m.pc 0) (fV m m.pc 1) (fV m m.pc 2) (fV m m.pc 3) m.pc) X W') := fun X hX => by
    rw [s1']
    exact do_any K g { m with st := m.st + 1 } gb bc s0 s1 s2 ta tc _ _ _ _ m.pc X hX ⟨hM.b0, hM.b1, hM.bl, hM.tl⟩ hR.reg hbc hnear.1 (by omega) b5 b6 b1 b2 b3 b4 hop hres
  clear hres
  have HPC : Hid ((plainM { m with st := m.st + 1 } (fV m m.pc 0) (fV m m.pc 1) (fV m m.pc 2) (fV m m.pc 3) m.pc).pc = m.pc) := (plain_keep { m with st := m.st + 1 } (fV m m.pc 0) (fV m m.pc 1) (fV m m.pc 2) (fV m m.pc 3) m.pc).2.2.1
  have HMM := Lib.hid s2'
  have HBH : Hid (∀ X, Calls Tryz.prog 30 #[.int .i64 m.pc, .int .i64 2] X fun e w' => e = .returned (.int .i64 (m.pc + 2)) ∧ X = w') := fun X => behind_any m.pc 2 X (by omega) (by omega)
  have HD : Hid ((if stepE m = 0 then stepD m else false) = false) := by unfold Hid; rw [s3']; simp
  have HL : Hid (∀ X, Calls Tryz.prog 27 #[.int .i64 (fV m m.pc 0)] X fun e w' => e = .returned (.bool false) ∧ X = w') := fun X => by
    have := HLE.out (fV m m.pc 0) X
    rw [hl] at this
    exact this
  rw [he] at HI
  have HCND : Hid (((fV m m.pc 0 == 27) = false) ∨ ((fV m m.pc 0 == 27) = true ∧ (fV m m.pc 3 == 0) = false)) := by
    unfold Hid
    by_cases h27 : fV m m.pc 0 = 27
    · right
      simp [h27]
      exact fun h3 => hend ⟨h27, h3⟩
    · left
      simpa using h27
  unfold SpPost
  clear h hR hM HLE he hl s1' s2' s3' b1 b2 b3 b4 b5 b6 hnear hop hend hIn
  generalize (if stepE m = 0 then stepD m else false) = DD at *
  generalize stepE m = EE at *
  generalize stepM m = SM at *
  generalize plainM { m with st := m.st + 1 } (fV m m.pc 0) (fV m m.pc 1) (fV m m.pc 2) (fV m m.pc 3) m.pc = PM at *
  generalize fV m m.pc 0 = d0 at *
  generalize fV m m.pc 1 = d1 at *
  generalize fV m m.pc 2 = d2 at *
  generalize fV m m.pc 3 = d3 at *
  obtain hcn | hcn := HCND.out
  · clear HCND
    go_enter Tryz.func16, Tryz.ntmps16
    go_upto_region 1 with fail
    refine wp_region_noPanic ?_
    refine wp_region_held_drew (S := fun w' => MR K g m gb bc (.slice s0 s1 s2) ta tc w') (by kernel_rfl) hH0 (fun hHeld => ?_)
    clear hH0
    generalize W.drew = V0 at *
    refine take_at 0 7 (v := ?_) rfl rfl (by kernel_rfl) (by kernel_rfl) (by kernel_rfl) (fun _ _ _ h => h) rfl ?_ hHeld ?_
    rotate_left
    · intro w hSw
      go_simp
      try with_reducible rfl
    simp only [List.setIfInBounds_toArray, List.set_cons_zero, List.set_cons_succ]
    refine take_at 1 8 (v := ?_) rfl rfl (by kernel_rfl) (by kernel_rfl) (by kernel_rfl) (fun _ _ _ h => h) rfl ?_ hHeld ?_
    rotate_left
    · intro w hSw
      go_simp
      try with_reducible rfl
    simp only [List.setIfInBounds_toArray, List.set_cons_zero, List.set_cons_succ]
    refine take_at 2 9 (v := ?_) rfl rfl (by kernel_rfl) (by kernel_rfl) (by kernel_rfl) (fun _ _ _ h => h) rfl ?_ hHeld ?_
    rotate_left
    · intro w hSw
      go_simp
      try with_reducible rfl
    simp only [List.setIfInBounds_toArray, List.set_cons_zero, List.set_cons_succ]
    refine take_at 3 10 (v := ?_) rfl rfl (by kernel_rfl) (by kernel_rfl) (by kernel_rfl) (fun _ _ _ h => h) rfl ?_ hHeld ?_
    rotate_left
    · intro w hSw
      have y0 := hSw.cells.2.2.2.1
      have y1 := hSw.cells.2.2.2.2.1
      have y2 := hSw.cells.2.2.2.2.2.1
      go_simp
      try with_reducible rfl
    simp only [List.setIfInBounds_toArray, List.set_cons_zero, List.set_cons_succ]
    refine take_at 4 11 (v := ?_) rfl rfl (by kernel_rfl) (by kernel_rfl) (by kernel_rfl) (fun _ _ _ h => h) rfl ?_ hHeld ?_
    rotate_left
    · intro w hSw
      go_simp
      try with_reducible rfl
    simp only [List.setIfInBounds_toArray, List.set_cons_zero, List.set_cons_succ]
    refine take_at 5 12 (v := ?_) rfl rfl (by kernel_rfl) (by kernel_rfl) (by kernel_rfl) (fun _ _ _ h => h) rfl ?_ hHeld ?_
    rotate_left
    · intro w hSw
      go_simp
      try with_reducible rfl
    simp only [List.setIfInBounds_toArray, List.set_cons_zero, List.set_cons_succ]
    refine take_at 6 13 (v := ?_) rfl rfl (by kernel_rfl) (by kernel_rfl) (by kernel_rfl) (fun _ _ _ h => h) rfl ?_ hHeld ?_
    rotate_left
    · intro w hSw
      go_simp
      try with_reducible rfl
    simp only [List.setIfInBounds_toArray, List.set_cons_zero, List.set_cons_succ]
    refine take_at 7 14 (v := ?_) rfl rfl (by kernel_rfl) (by kernel_rfl) (by kernel_rfl) (fun _ _ _ h => h) rfl ?_ hHeld ?_
    rotate_left
    · intro w hSw
      have y := hSw.cells.2.1
      go_simp
      try with_reducible rfl
    simp only [List.setIfInBounds_toArray, List.set_cons_zero, List.set_cons_succ]
    refine wpAnyH_ready (rs := [8, 12]) (by kernel_rfl) (by simp) ?_
    refine AllReadyH.cons rfl (fun K hK => ?_) (AllReadyH.cons rfl (fun K hK => ?_) AllReadyH.nil)
    · go_simp
      refine (HI.out V0 hHeld HB0.out).mono ?_
      rintro e V1 ⟨rfl, hb⟩
      have hH1 := hHeld.next hb
      have HB1 := Lib.hid (HB0.out.trans (hb.mono HB0.out.size))
      refine hK.out _ _ hH1 (fun hHeld => ?_)
      clear hK K hb hH1 HB0
      refine take_at 9 6 (v := ?_) rfl rfl (by kernel_rfl) (by kernel_rfl) (by kernel_rfl) (fun _ _ _ h => h) rfl ?_ hHeld ?_
      rotate_left
      · intro w hSw
        go_simp
        try with_reducible rfl
      simp only [List.setIfInBounds_toArray, List.set_cons_zero, List.set_cons_succ]
      refine take_at 10 16 (v := ?_) rfl rfl (by kernel_rfl) (by kernel_rfl) (by kernel_rfl) (fun _ _ _ h => h) rfl ?_ hHeld ?_
      rotate_left
      · intro w hSw
        go_simp
        try with_reducible rfl
      simp only [List.setIfInBounds_toArray, List.set_cons_zero, List.set_cons_succ]
      refine take_at 11 17 (v := ?_) rfl rfl (by kernel_rfl) (by kernel_rfl) (by kernel_rfl) (fun _ _ _ h => h) rfl ?_ hHeld ?_
      rotate_left
      · intro w hSw
        go_simp
        try with_reducible rfl
      simp only [List.setIfInBounds_toArray, List.set_cons_zero, List.set_cons_succ]
      refine wpAnyH_ready (rs := [12]) (by kernel_rfl) (by simp) ?_
      refine AllReadyH.cons rfl (fun K hK => ?_) AllReadyH.nil
      go_simp
      generalize hWn : World.alloc V1 _ = V2
      have hb : Below V1.heap.size V1 V2 := by rw [← hWn]; exact oalloc _ _
      have HQ2 : Hid (V2.heap[V1.heap.size]? = some (.cells #[.int .i64 0, .int .i64 0, .int .i64 0, .int .i64 0] 71 (0, 0))) := by unfold Hid; rw [← hWn]; exact blk_new V1 _ _
      have hH1 := hHeld.next hb
      have HB2 := Lib.hid (HB1.out.trans (hb.mono HB1.out.size))
      have HQL := Lib.hid HB1.out.size
      refine hK.out _ _ hH1 (fun hHeld => ?_)
      clear hK K hb hH1 hWn HB1
      refine wpAnyH_ready (rs := [13]) (by kernel_rfl) (by simp) ?_
      refine AllReadyH.cons rfl (fun K hK => ?_) AllReadyH.nil
      obtain ⟨x0, x1, x2, x3, f0, f1, f2, f3, hq⟩ := four_new HQ2.out (.int .i64 d0) (.int .i64 d1) (.int .i64 d2) (.int .i64 d3)
      have HX := Lib.hid hq
      have hb := four_bel (Below.refl W.heap.size V2) HQL.out (.int .i64 d0) (.int .i64 d1) (.int .i64 d2) (.int .i64 d3)
      have HBX := Lib.hid (HB2.out.trans hb)
      have hMX := HW.out.next HBX.out
      clear hq hb
      go_simp
      refine hK.out _ _ hMX (fun hHeld => ?_)
      clear hK K hMX x0 x1 x2 x3 f0 f1 f2 f3 HB2 HQ2
      generalize (((World.setCell V2 ⟨V1.heap.size, 0, none⟩ (.int .i64 d0)).setCell ⟨V1.heap.size, 1, none⟩ (.int .i64 d1)).setCell ⟨V1.heap.size, 2, none⟩ (.int .i64 d2)).setCell ⟨V1.heap.size, 3, none⟩ (.int .i64 d3) = X at *
      generalize V1.heap.size = q at *
      refine take_at 14 5 (v := ?_) rfl rfl (by kernel_rfl) (by kernel_rfl) (by kernel_rfl) (fun _ _ _ h => h) rfl ?_ hHeld ?_
      rotate_left
      · intro w hSw
        go_simp
        try with_reducible rfl
      simp only [List.setIfInBounds_toArray, List.set_cons_zero, List.set_cons_succ]
      refine wpAnyH_done (by kernel_rfl) ?_ _
      refine NoPanic.normal ?_
      have hqg := box_ne hHeld HX.out
      have hgq : g ≠ q := fun e => hqg e.symm
      have y0 := cell_of_block (i := 0) HX.out rfl
      have y1 := cell_of_block (i := 1) HX.out rfl
      have y2 := cell_of_block (i := 2) HX.out rfl
      have y3 := cell_of_block (i := 3) HX.out rfl
      have x23 := hHeld.cells.2.2.2.2.2.2.2
      have xf := hHeld.fz 23
      have HMX := Lib.hid (hHeld.setst (m.st + 1))
      clear hHeld
      go_upto_region 9 with (first | (go_at_call 27; refine (HL.out _).mono ?_; rintro e w' ⟨rfl, rfl⟩) | fail)
      refine wp_region_noPanic ?_
      refine wp_region_held_drew (S := fun _ => True) (by kernel_rfl) trivial (fun hHeld => ?_)
      have HMY := Lib.hid (HMX.out.next (Below.refl _ _).drew)
      have HKY := Lib.hid (((HKN.out _ HBX.out).trans (Kept.cell (K := K) (gb := gb) ⟨g, 23, none⟩ (.int .i64 (m.st + 1)))).drew)
      have HQY : Hid ((X.setCell ⟨g, 23, none⟩ (.int .i64 (m.st + 1))).drew.heap[q]? = some (.cells #[.int .i64 d0, .int .i64 d1, .int .i64 d2, .int .i64 d3] 71 (0, 0))) := by
        show (X.setCell ⟨g, 23, none⟩ (.int .i64 (m.st + 1))).heap[q]? = _
        rw [Below.heap_setCell _ _ _ _ (by exact hqg)]
        exact HX.out
      clear HMX y0 y1 y2 y3 x23 xf
      generalize (X.setCell ⟨g, 23, none⟩ (.int .i64 (m.st + 1))).drew = Y at *
      refine take_at 0 42 (v := ?_) rfl rfl (by kernel_rfl) (by kernel_rfl) (by kernel_rfl) (fun _ _ _ h => h) rfl ?_ hHeld ?_
      rotate_left
      · intro w hSw
        go_simp
        try with_reducible rfl
      simp only [List.setIfInBounds_toArray, List.set_cons_zero, List.set_cons_succ]
      refine take_at 2 44 (v := ?_) rfl rfl (by kernel_rfl) (by kernel_rfl) (by kernel_rfl) (fun _ _ _ h => h) rfl ?_ hHeld ?_
      rotate_left
      · intro w hSw
        go_simp
        try with_reducible rfl
      simp only [List.setIfInBounds_toArray, List.set_cons_zero, List.set_cons_succ]
      refine take_at 3 45 (v := ?_) rfl rfl (by kernel_rfl) (by kernel_rfl) (by kernel_rfl) (fun _ _ _ h => h) rfl ?_ hHeld ?_
      rotate_left
      · intro w hSw
        go_simp
        try with_reducible rfl
      simp only [List.setIfInBounds_toArray, List.set_cons_zero, List.set_cons_succ]
      refine take_at 4 46 (v := ?_) rfl rfl (by kernel_rfl) (by kernel_rfl) (by kernel_rfl) (fun _ _ _ h => h) rfl ?_ hHeld ?_
      rotate_left
      · intro w hSw
        go_simp
        try with_reducible rfl
      simp only [List.setIfInBounds_toArray, List.set_cons_zero, List.set_cons_succ]
      refine wpAnyH_ready (rs := [1, 5]) (by kernel_rfl) (by simp) ?_
      refine AllReadyH.cons rfl (fun K hK => ?_) (AllReadyH.cons rfl (fun K hK => ?_) AllReadyH.nil)
      · have z0 := cell_of_block (i := 0) HQY.out rfl
        have z1 := cell_of_block (i := 1) HQY.out rfl
        have z2 := cell_of_block (i := 2) HQY.out rfl
        have z3 := cell_of_block (i := 3) HQY.out rfl
        go_simp
        refine hK.out _ _ trivial (fun hHeld => ?_)
        clear hK K z0 z1 z2 z3
        refine wpAnyH_ready (rs := [5]) (by kernel_rfl) (by simp) ?_
        refine AllReadyH.cons rfl (fun K hK => ?_) AllReadyH.nil
        have z := HMY.out.cells.2.1
        go_simp
        refine hK.out _ _ trivial (fun hHeld => ?_)
        clear hK K z
        refine wpAnyH_ready (rs := [6]) (by kernel_rfl) (by simp) ?_
        refine AllReadyH.cons rfl (fun K hK => ?_) AllReadyH.nil
        go_simp
        refine (HDO.out Y HMY.out).mono ?_
        rintro e W2 ⟨rfl, hp2⟩
        obtain ⟨hk2, ta2, tc2, hm2⟩ := hp2
        have HK2 := Lib.hid (HKY.out.trans hk2)
        have HM2 := Lib.hid hm2
        have w17 := hm2.cells.2.1
        rw [HPC.out] at w17
        have wf := hm2.fz 17
        refine hK.out _ _ trivial (fun hHeld => ?_)
        clear hK K hk2 hm2
        refine take_at 7 5 (v := ?_) rfl rfl (by kernel_rfl) (by kernel_rfl) (by kernel_rfl) (fun _ _ _ h => h) rfl ?_ hHeld ?_
        rotate_left
        · intro w hSw
          go_simp
          try with_reducible rfl
        simp only [List.setIfInBounds_toArray, List.set_cons_zero, List.set_cons_succ]
        refine wpAnyH_done (by kernel_rfl) ?_ _
        refine NoPanic.normal ?_
        go_wp2_with (first | (go_at_call 30; refine (HBH.out _).mono ?_; rintro e w' ⟨rfl, rfl⟩) | fail)
        go_ret2
        exact ⟨by rw [HD.out]; rfl, HK2.out.trans (Kept.cell ⟨g, 17, none⟩ _), fun _ => ⟨_, _, by rw [HMM.out]; exact HM2.out.setpc (m.pc + 2)⟩⟩
      · have z := HMY.out.cells.2.1
        go_simp
        refine hK.out _ _ trivial (fun hHeld => ?_)
        clear hK K z
        refine wpAnyH_ready (rs := [1]) (by kernel_rfl) (by simp) ?_
        refine AllReadyH.cons rfl (fun K hK => ?_) AllReadyH.nil
        have z0 := cell_of_block (i := 0) HQY.out rfl
        have z1 := cell_of_block (i := 1) HQY.out rfl
        have z2 := cell_of_block (i := 2) HQY.out rfl
        have z3 := cell_of_block (i := 3) HQY.out rfl
        go_simp
        refine hK.out _ _ trivial (fun hHeld => ?_)
        clear hK K z0 z1 z2 z3
        refine wpAnyH_ready (rs := [6]) (by kernel_rfl) (by simp) ?_
        refine AllReadyH.cons rfl (fun K hK => ?_) AllReadyH.nil
        go_simp
        refine (HDO.out Y HMY.out).mono ?_
        rintro e W2 ⟨rfl, hp2⟩
        obtain ⟨hk2, ta2, tc2, hm2⟩ := hp2
        have HK2 := Lib.hid (HKY.out.trans hk2)
        have HM2 := Lib.hid hm2
        have w17 := hm2.cells.2.1
        rw [HPC.out] at w17
        have wf := hm2.fz 17
        refine hK.out _ _ trivial (fun hHeld => ?_)
        clear hK K hk2 hm2
        refine take_at 7 5 (v := ?_) rfl rfl (by kernel_rfl) (by kernel_rfl) (by kernel_rfl) (fun _ _ _ h => h) rfl ?_ hHeld ?_
        rotate_left
        · intro w hSw
          go_simp
          try with_reducible rfl
        simp only [List.setIfInBounds_toArray, List.set_cons_zero, List.set_cons_succ]
        refine wpAnyH_done (by kernel_rfl) ?_ _
        refine NoPanic.normal ?_
        go_wp2_with (first | (go_at_call 30; refine (HBH.out _).mono ?_; rintro e w' ⟨rfl, rfl⟩) | fail)
        go_ret2
        exact ⟨by rw [HD.out]; rfl, HK2.out.trans (Kept.cell ⟨g, 17, none⟩ _), fun _ => ⟨_, _, by rw [HMM.out]; exact HM2.out.setpc (m.pc + 2)⟩⟩
    · go_simp
      generalize hWn : World.alloc V0 _ = V1
      have hb : Below V0.heap.size V0 V1 := by rw [← hWn]; exact oalloc _ _
      have HQ1 : Hid (V1.heap[V0.heap.size]? = some (.cells #[.int .i64 0, .int .i64 0, .int .i64 0, .int .i64 0] 71 (0, 0))) := by unfold Hid; rw [← hWn]; exact blk_new V0 _ _
      have hH1 := hHeld.next hb
      have HB1 := Lib.hid (HB0.out.trans (hb.mono HB0.out.size))
      have HQL := Lib.hid HB0.out.size
      refine hK.out _ _ hH1 (fun hHeld => ?_)
      clear hK K hb hH1 hWn HB0
      refine wpAnyH_ready (rs := [8]) (by kernel_rfl) (by simp) ?_
      refine AllReadyH.cons rfl (fun K hK => ?_) AllReadyH.nil
      go_simp
      refine (HI.out V1 hHeld HB1.out).mono ?_
      rintro e V2 ⟨rfl, hb⟩
      have hH1 := hHeld.next hb
      have HB2 := Lib.hid (HB1.out.trans (hb.mono HB1.out.size))
      have HQ2 := Lib.hid ((hb.block _ (Array.getElem?_eq_some_iff.1 HQ1.out).1).trans HQ1.out)
      refine hK.out _ _ hH1 (fun hHeld => ?_)
      clear hK K hb hH1 HB1 HQ1
      refine take_at 9 6 (v := ?_) rfl rfl (by kernel_rfl) (by kernel_rfl) (by kernel_rfl) (fun _ _ _ h => h) rfl ?_ hHeld ?_
      rotate_left
      · intro w hSw
        go_simp
        try with_reducible rfl
      simp only [List.setIfInBounds_toArray, List.set_cons_zero, List.set_cons_succ]
      refine take_at 10 16 (v := ?_) rfl rfl (by kernel_rfl) (by kernel_rfl) (by kernel_rfl) (fun _ _ _ h => h) rfl ?_ hHeld ?_
      rotate_left
      · intro w hSw
        go_simp
        try with_reducible rfl
      simp only [List.setIfInBounds_toArray, List.set_cons_zero, List.set_cons_succ]
      refine take_at 11 17 (v := ?_) rfl rfl (by kernel_rfl) (by kernel_rfl) (by kernel_rfl) (fun _ _ _ h => h) rfl ?_ hHeld ?_
      rotate_left
      · intro w hSw
        go_simp
        try with_reducible rfl
      simp only [List.setIfInBounds_toArray, List.set_cons_zero, List.set_cons_succ]
      refine wpAnyH_ready (rs := [13]) (by kernel_rfl) (by simp) ?_
      refine AllReadyH.cons rfl (fun K hK => ?_) AllReadyH.nil
      obtain ⟨x0, x1, x2, x3, f0, f1, f2, f3, hq⟩ := four_new HQ2.out (.int .i64 d0) (.int .i64 d1) (.int .i64 d2) (.int .i64 d3)
      have HX := Lib.hid hq
      have hb := four_bel (Below.refl W.heap.size V2) HQL.out (.int .i64 d0) (.int .i64 d1) (.int .i64 d2) (.int .i64 d3)
      have HBX := Lib.hid (HB2.out.trans hb)
      have hMX := HW.out.next HBX.out
      clear hq hb
      go_simp
      refine hK.out _ _ hMX (fun hHeld => ?_)
      clear hK K hMX x0 x1 x2 x3 f0 f1 f2 f3 HB2 HQ2
      generalize (((World.setCell V2 ⟨V0.heap.size, 0, none⟩ (.int .i64 d0)).setCell ⟨V0.heap.size, 1, none⟩ (.int .i64 d1)).setCell ⟨V0.heap.size, 2, none⟩ (.int .i64 d2)).setCell ⟨V0.heap.size, 3, none⟩ (.int .i64 d3) = X at *
      generalize V0.heap.size = q at *
      refine take_at 14 5 (v := ?_) rfl rfl (by kernel_rfl) (by kernel_rfl) (by kernel_rfl) (fun _ _ _ h => h) rfl ?_ hHeld ?_
      rotate_left
      · intro w hSw
        go_simp
        try with_reducible rfl
      simp only [List.setIfInBounds_toArray, List.set_cons_zero, List.set_cons_succ]
      refine wpAnyH_done (by kernel_rfl) ?_ _
      refine NoPanic.normal ?_
      have hqg := box_ne hHeld HX.out
      have hgq : g ≠ q := fun e => hqg e.symm
      have y0 := cell_of_block (i := 0) HX.out rfl
      have y1 := cell_of_block (i := 1) HX.out rfl
      have y2 := cell_of_block (i := 2) HX.out rfl
      have y3 := cell_of_block (i := 3) HX.out rfl
      have x23 := hHeld.cells.2.2.2.2.2.2.2
      have xf := hHeld.fz 23
      have HMX := Lib.hid (hHeld.setst (m.st + 1))
      clear hHeld
      go_upto_region 9 with (first | (go_at_call 27; refine (HL.out _).mono ?_; rintro e w' ⟨rfl, rfl⟩) | fail)
      refine wp_region_noPanic ?_
      refine wp_region_held_drew (S := fun _ => True) (by kernel_rfl) trivial (fun hHeld => ?_)
      have HMY := Lib.hid (HMX.out.next (Below.refl _ _).drew)
      have HKY := Lib.hid (((HKN.out _ HBX.out).trans (Kept.cell (K := K) (gb := gb) ⟨g, 23, none⟩ (.int .i64 (m.st + 1)))).drew)
      have HQY : Hid ((X.setCell ⟨g, 23, none⟩ (.int .i64 (m.st + 1))).drew.heap[q]? = some (.cells #[.int .i64 d0, .int .i64 d1, .int .i64 d2, .int .i64 d3] 71 (0, 0))) := by
        show (X.setCell ⟨g, 23, none⟩ (.int .i64 (m.st + 1))).heap[q]? = _
        rw [Below.heap_setCell _ _ _ _ (by exact hqg)]
        exact HX.out
      clear HMX y0 y1 y2 y3 x23 xf
      generalize (X.setCell ⟨g, 23, none⟩ (.int .i64 (m.st + 1))).drew = Y at *
      refine take_at 0 42 (v := ?_) rfl rfl (by kernel_rfl) (by kernel_rfl) (by kernel_rfl) (fun _ _ _ h => h) rfl ?_ hHeld ?_
      rotate_left
      · intro w hSw
        go_simp
        try with_reducible rfl
      simp only [List.setIfInBounds_toArray, List.set_cons_zero, List.set_cons_succ]
      refine take_at 2 44 (v := ?_) rfl rfl (by kernel_rfl) (by kernel_rfl) (by kernel_rfl) (fun _ _ _ h => h) rfl ?_ hHeld ?_
      rotate_left
      · intro w hSw
        go_simp
        try with_reducible rfl
      simp only [List.setIfInBounds_toArray, List.set_cons_zero, List.set_cons_succ]
      refine take_at 3 45 (v := ?_) rfl rfl (by kernel_rfl) (by kernel_rfl) (by kernel_rfl) (fun _ _ _ h => h) rfl ?_ hHeld ?_
      rotate_left
      · intro w hSw
        go_simp
        try with_reducible rfl
      simp only [List.setIfInBounds_toArray, List.set_cons_zero, List.set_cons_succ]
      refine take_at 4 46 (v := ?_) rfl rfl (by kernel_rfl) (by kernel_rfl) (by kernel_rfl) (fun _ _ _ h => h) rfl ?_ hHeld ?_
      rotate_left
      · intro w hSw
        go_simp
        try with_reducible rfl
      simp only [List.setIfInBounds_toArray, List.set_cons_zero, List.set_cons_succ]
      refine wpAnyH_ready (rs := [1, 5]) (by kernel_rfl) (by simp) ?_
      refine AllReadyH.cons rfl (fun K hK => ?_) (AllReadyH.cons rfl (fun K hK => ?_) AllReadyH.nil)
      · have z0 := cell_of_block (i := 0) HQY.out rfl
        have z1 := cell_of_block (i := 1) HQY.out rfl
        have z2 := cell_of_block (i := 2) HQY.out rfl
        have z3 := cell_of_block (i := 3) HQY.out rfl
        go_simp
        refine hK.out _ _ trivial (fun hHeld => ?_)
        clear hK K z0 z1 z2 z3
        refine wpAnyH_ready (rs := [5]) (by kernel_rfl) (by simp) ?_
        refine AllReadyH.cons rfl (fun K hK => ?_) AllReadyH.nil
        have z := HMY.out.cells.2.1
        go_simp
        refine hK.out _ _ trivial (fun hHeld => ?_)
        clear hK K z
        refine wpAnyH_ready (rs := [6]) (by kernel_rfl) (by simp) ?_
        refine AllReadyH.cons rfl (fun K hK => ?_) AllReadyH.nil
        go_simp
        refine (HDO.out Y HMY.out).mono ?_
        rintro e W2 ⟨rfl, hp2⟩
        obtain ⟨hk2, ta2, tc2, hm2⟩ := hp2
        have HK2 := Lib.hid (HKY.out.trans hk2)
        have HM2 := Lib.hid hm2
        have w17 := hm2.cells.2.1
        rw [HPC.out] at w17
        have wf := hm2.fz 17
        refine hK.out _ _ trivial (fun hHeld => ?_)
        clear hK K hk2 hm2
        refine take_at 7 5 (v := ?_) rfl rfl (by kernel_rfl) (by kernel_rfl) (by kernel_rfl) (fun _ _ _ h => h) rfl ?_ hHeld ?_
        rotate_left
        · intro w hSw
          go_simp
          try with_reducible rfl
        simp only [List.setIfInBounds_toArray, List.set_cons_zero, List.set_cons_succ]
        refine wpAnyH_done (by kernel_rfl) ?_ _
        refine NoPanic.normal ?_
        go_wp2_with (first | (go_at_call 30; refine (HBH.out _).mono ?_; rintro e w' ⟨rfl, rfl⟩) | fail)
        go_ret2
        exact ⟨by rw [HD.out]; rfl, HK2.out.trans (Kept.cell ⟨g, 17, none⟩ _), fun _ => ⟨_, _, by rw [HMM.out]; exact HM2.out.setpc (m.pc + 2)⟩⟩
      · have z := HMY.out.cells.2.1
        go_simp
        refine hK.out _ _ trivial (fun hHeld => ?_)
        clear hK K z
        refine wpAnyH_ready (rs := [1]) (by kernel_rfl) (by simp) ?_
        refine AllReadyH.cons rfl (fun K hK => ?_) AllReadyH.nil
        have z0 := cell_of_block (i := 0) HQY.out rfl
        have z1 := cell_of_block (i := 1) HQY.out rfl
        have z2 := cell_of_block (i := 2) HQY.out rfl
        have z3 := cell_of_block (i := 3) HQY.out rfl
        go_simp
        refine hK.out _ _ trivial (fun hHeld => ?_)
        clear hK K z0 z1 z2 z3
        refine wpAnyH_ready (rs := [6]) (by kernel_rfl) (by simp) ?_
        refine AllReadyH.cons rfl (fun K hK => ?_) AllReadyH.nil
        go_simp
        refine (HDO.out Y HMY.out).mono ?_
        rintro e W2 ⟨rfl, hp2⟩
        obtain ⟨hk2, ta2, tc2, hm2⟩ := hp2
        have HK2 := Lib.hid (HKY.out.trans hk2)
        have HM2 := Lib.hid hm2
        have w17 := hm2.cells.2.1
        rw [HPC.out] at w17
        have wf := hm2.fz 17
        refine hK.out _ _ trivial (fun hHeld => ?_)
        clear hK K hk2 hm2
        refine take_at 7 5 (v := ?_) rfl rfl (by kernel_rfl) (by kernel_rfl) (by kernel_rfl) (fun _ _ _ h => h) rfl ?_ hHeld ?_
        rotate_left
        · intro w hSw
          go_simp
          try with_reducible rfl
        simp only [List.setIfInBounds_toArray, List.set_cons_zero, List.set_cons_succ]
        refine wpAnyH_done (by kernel_rfl) ?_ _
        refine NoPanic.normal ?_
        go_wp2_with (first | (go_at_call 30; refine (HBH.out _).mono ?_; rintro e w' ⟨rfl, rfl⟩) | fail)
        go_ret2
        exact ⟨by rw [HD.out]; rfl, HK2.out.trans (Kept.cell ⟨g, 17, none⟩ _), fun _ => ⟨_, _, by rw [HMM.out]; exact HM2.out.setpc (m.pc + 2)⟩⟩
  · obtain ⟨hcn1, hcn2⟩ := hcn
    clear HCND
    go_enter Tryz.func16, Tryz.ntmps16
    go_upto_region 1 with fail
    refine wp_region_noPanic ?_
    refine wp_region_held_drew (S := fun w' => MR K g m gb bc (.slice s0 s1 s2) ta tc w') (by kernel_rfl) hH0 (fun hHeld => ?_)
    clear hH0
    generalize W.drew = V0 at *
    refine take_at 0 7 (v := ?_) rfl rfl (by kernel_rfl) (by kernel_rfl) (by kernel_rfl) (fun _ _ _ h => h) rfl ?_ hHeld ?_
    rotate_left
    · intro w hSw
      go_simp
      try with_reducible rfl
    simp only [List.setIfInBounds_toArray, List.set_cons_zero, List.set_cons_succ]
    refine take_at 1 8 (v := ?_) rfl rfl (by kernel_rfl) (by kernel_rfl) (by kernel_rfl) (fun _ _ _ h => h) rfl ?_ hHeld ?_
    rotate_left
    · intro w hSw
      go_simp
      try with_reducible rfl
    simp only [List.setIfInBounds_toArray, List.set_cons_zero, List.set_cons_succ]
    refine take_at 2 9 (v := ?_) rfl rfl (by kernel_rfl) (by kernel_rfl) (by kernel_rfl) (fun _ _ _ h => h) rfl ?_ hHeld ?_
    rotate_left
    · intro w hSw
      go_simp
      try with_reducible rfl
    simp only [List.setIfInBounds_toArray, List.set_cons_zero, List.set_cons_succ]
    refine take_at 3 10 (v := ?_) rfl rfl (by kernel_rfl) (by kernel_rfl) (by kernel_rfl) (fun _ _ _ h => h) rfl ?_ hHeld ?_
    rotate_left
    · intro w hSw
      have y0 := hSw.cells.2.2.2.1
      have y1 := hSw.cells.2.2.2.2.1
      have y2 := hSw.cells.2.2.2.2.2.1
      go_simp
      try with_reducible rfl
    simp only [List.setIfInBounds_toArray, List.set_cons_zero, List.set_cons_succ]
    refine take_at 4 11 (v := ?_) rfl rfl (by kernel_rfl) (by kernel_rfl) (by kernel_rfl) (fun _ _ _ h => h) rfl ?_ hHeld ?_
    rotate_left
    · intro w hSw
      go_simp
      try with_reducible rfl
    simp only [List.setIfInBounds_toArray, List.set_cons_zero, List.set_cons_succ]
    refine take_at 5 12 (v := ?_) rfl rfl (by kernel_rfl) (by kernel_rfl) (by kernel_rfl) (fun _ _ _ h => h) rfl ?_ hHeld ?_
    rotate_left
    · intro w hSw
      go_simp
      try with_reducible rfl
    simp only [List.setIfInBounds_toArray, List.set_cons_zero, List.set_cons_succ]
    refine take_at 6 13 (v := ?_) rfl rfl (by kernel_rfl) (by kernel_rfl) (by kernel_rfl) (fun _ _ _ h => h) rfl ?_ hHeld ?_
    rotate_left
    · intro w hSw
      go_simp
      try with_reducible rfl
    simp only [List.setIfInBounds_toArray, List.set_cons_zero, List.set_cons_succ]
    refine take_at 7 14 (v := ?_) rfl rfl (by kernel_rfl) (by kernel_rfl) (by kernel_rfl) (fun _ _ _ h => h) rfl ?_ hHeld ?_
    rotate_left
    · intro w hSw
      have y := hSw.cells.2.1
      go_simp
      try with_reducible rfl
    simp only [List.setIfInBounds_toArray, List.set_cons_zero, List.set_cons_succ]
    refine wpAnyH_ready (rs := [8, 12]) (by kernel_rfl) (by simp) ?_
    refine AllReadyH.cons rfl (fun K hK => ?_) (AllReadyH.cons rfl (fun K hK => ?_) AllReadyH.nil)
    · go_simp
      refine (HI.out V0 hHeld HB0.out).mono ?_
      rintro e V1 ⟨rfl, hb⟩
      have hH1 := hHeld.next hb
      have HB1 := Lib.hid (HB0.out.trans (hb.mono HB0.out.size))
      refine hK.out _ _ hH1 (fun hHeld => ?_)
      clear hK K hb hH1 HB0
      refine take_at 9 6 (v := ?_) rfl rfl (by kernel_rfl) (by kernel_rfl) (by kernel_rfl) (fun _ _ _ h => h) rfl ?_ hHeld ?_
      rotate_left
      · intro w hSw
        go_simp
        try with_reducible rfl
      simp only [List.setIfInBounds_toArray, List.set_cons_zero, List.set_cons_succ]
      refine take_at 10 16 (v := ?_) rfl rfl (by kernel_rfl) (by kernel_rfl) (by kernel_rfl) (fun _ _ _ h => h) rfl ?_ hHeld ?_
      rotate_left
      · intro w hSw
        go_simp
        try with_reducible rfl
      simp only [List.setIfInBounds_toArray, List.set_cons_zero, List.set_cons_succ]
      refine take_at 11 17 (v := ?_) rfl rfl (by kernel_rfl) (by kernel_rfl) (by kernel_rfl) (fun _ _ _ h => h) rfl ?_ hHeld ?_
      rotate_left
      · intro w hSw
        go_simp
        try with_reducible rfl
      simp only [List.setIfInBounds_toArray, List.set_cons_zero, List.set_cons_succ]
      refine wpAnyH_ready (rs := [12]) (by kernel_rfl) (by simp) ?_
      refine AllReadyH.cons rfl (fun K hK => ?_) AllReadyH.nil
      go_simp
      generalize hWn : World.alloc V1 _ = V2
      have hb : Below V1.heap.size V1 V2 := by rw [← hWn]; exact oalloc _ _
      have HQ2 : Hid (V2.heap[V1.heap.size]? = some (.cells #[.int .i64 0, .int .i64 0, .int .i64 0, .int .i64 0] 71 (0, 0))) := by unfold Hid; rw [← hWn]; exact blk_new V1 _ _
      have hH1 := hHeld.next hb
      have HB2 := Lib.hid (HB1.out.trans (hb.mono HB1.out.size))
      have HQL := Lib.hid HB1.out.size
      refine hK.out _ _ hH1 (fun hHeld => ?_)
      clear hK K hb hH1 hWn HB1
      refine wpAnyH_ready (rs := [13]) (by kernel_rfl) (by simp) ?_
      refine AllReadyH.cons rfl (fun K hK => ?_) AllReadyH.nil
      obtain ⟨x0, x1, x2, x3, f0, f1, f2, f3, hq⟩ := four_new HQ2.out (.int .i64 d0) (.int .i64 d1) (.int .i64 d2) (.int .i64 d3)
      have HX := Lib.hid hq
      have hb := four_bel (Below.refl W.heap.size V2) HQL.out (.int .i64 d0) (.int .i64 d1) (.int .i64 d2) (.int .i64 d3)
      have HBX := Lib.hid (HB2.out.trans hb)
      have hMX := HW.out.next HBX.out
      clear hq hb
      go_simp
      refine hK.out _ _ hMX (fun hHeld => ?_)
      clear hK K hMX x0 x1 x2 x3 f0 f1 f2 f3 HB2 HQ2
      generalize (((World.setCell V2 ⟨V1.heap.size, 0, none⟩ (.int .i64 d0)).setCell ⟨V1.heap.size, 1, none⟩ (.int .i64 d1)).setCell ⟨V1.heap.size, 2, none⟩ (.int .i64 d2)).setCell ⟨V1.heap.size, 3, none⟩ (.int .i64 d3) = X at *
      generalize V1.heap.size = q at *
      refine take_at 14 5 (v := ?_) rfl rfl (by kernel_rfl) (by kernel_rfl) (by kernel_rfl) (fun _ _ _ h => h) rfl ?_ hHeld ?_
      rotate_left
      · intro w hSw
        go_simp
        try with_reducible rfl
      simp only [List.setIfInBounds_toArray, List.set_cons_zero, List.set_cons_succ]
      refine wpAnyH_done (by kernel_rfl) ?_ _
      refine NoPanic.normal ?_
      have hqg := box_ne hHeld HX.out
      have hgq : g ≠ q := fun e => hqg e.symm
      have y0 := cell_of_block (i := 0) HX.out rfl
      have y1 := cell_of_block (i := 1) HX.out rfl
      have y2 := cell_of_block (i := 2) HX.out rfl
      have y3 := cell_of_block (i := 3) HX.out rfl
      have x23 := hHeld.cells.2.2.2.2.2.2.2
      have xf := hHeld.fz 23
      have HMX := Lib.hid (hHeld.setst (m.st + 1))
      clear hHeld
      go_upto_region 9 with (first | (go_at_call 27; refine (HL.out _).mono ?_; rintro e w' ⟨rfl, rfl⟩) | fail)
      refine wp_region_noPanic ?_
      refine wp_region_held_drew (S := fun _ => True) (by kernel_rfl) trivial (fun hHeld => ?_)
      have HMY := Lib.hid (HMX.out.next (Below.refl _ _).drew)
      have HKY := Lib.hid (((HKN.out _ HBX.out).trans (Kept.cell (K := K) (gb := gb) ⟨g, 23, none⟩ (.int .i64 (m.st + 1)))).drew)
      have HQY : Hid ((X.setCell ⟨g, 23, none⟩ (.int .i64 (m.st + 1))).drew.heap[q]? = some (.cells #[.int .i64 d0, .int .i64 d1, .int .i64 d2, .int .i64 d3] 71 (0, 0))) := by
        show (X.setCell ⟨g, 23, none⟩ (.int .i64 (m.st + 1))).heap[q]? = _
        rw [Below.heap_setCell _ _ _ _ (by exact hqg)]
        exact HX.out
      clear HMX y0 y1 y2 y3 x23 xf
      generalize (X.setCell ⟨g, 23, none⟩ (.int .i64 (m.st + 1))).drew = Y at *
      refine take_at 0 42 (v := ?_) rfl rfl (by kernel_rfl) (by kernel_rfl) (by kernel_rfl) (fun _ _ _ h => h) rfl ?_ hHeld ?_
      rotate_left
      · intro w hSw
        go_simp
        try with_reducible rfl
      simp only [List.setIfInBounds_toArray, List.set_cons_zero, List.set_cons_succ]
      refine take_at 2 44 (v := ?_) rfl rfl (by kernel_rfl) (by kernel_rfl) (by kernel_rfl) (fun _ _ _ h => h) rfl ?_ hHeld ?_
      rotate_left
      · intro w hSw
        go_simp
        try with_reducible rfl
      simp only [List.setIfInBounds_toArray, List.set_cons_zero, List.set_cons_succ]
      refine take_at 3 45 (v := ?_) rfl rfl (by kernel_rfl) (by kernel_rfl) (by kernel_rfl) (fun _ _ _ h => h) rfl ?_ hHeld ?_
      rotate_left
      · intro w hSw
        go_simp
        try with_reducible rfl
      simp only [List.setIfInBounds_toArray, List.set_cons_zero, List.set_cons_succ]
      refine take_at 4 46 (v := ?_) rfl rfl (by kernel_rfl) (by kernel_rfl) (by kernel_rfl) (fun _ _ _ h => h) rfl ?_ hHeld ?_
      rotate_left
      · intro w hSw
        go_simp
        try with_reducible rfl
      simp only [List.setIfInBounds_toArray, List.set_cons_zero, List.set_cons_succ]
      refine wpAnyH_ready (rs := [1, 5]) (by kernel_rfl) (by simp) ?_
      refine AllReadyH.cons rfl (fun K hK => ?_) (AllReadyH.cons rfl (fun K hK => ?_) AllReadyH.nil)
      · have z0 := cell_of_block (i := 0) HQY.out rfl
        have z1 := cell_of_block (i := 1) HQY.out rfl
        have z2 := cell_of_block (i := 2) HQY.out rfl
        have z3 := cell_of_block (i := 3) HQY.out rfl
        go_simp
        refine hK.out _ _ trivial (fun hHeld => ?_)
        clear hK K z0 z1 z2 z3
        refine wpAnyH_ready (rs := [5]) (by kernel_rfl) (by simp) ?_
        refine AllReadyH.cons rfl (fun K hK => ?_) AllReadyH.nil
        have z := HMY.out.cells.2.1
        go_simp
        refine hK.out _ _ trivial (fun hHeld => ?_)
        clear hK K z
        refine wpAnyH_ready (rs := [6]) (by kernel_rfl) (by simp) ?_
        refine AllReadyH.cons rfl (fun K hK => ?_) AllReadyH.nil
        go_simp
        refine (HDO.out Y HMY.out).mono ?_
        rintro e W2 ⟨rfl, hp2⟩
        obtain ⟨hk2, ta2, tc2, hm2⟩ := hp2
        have HK2 := Lib.hid (HKY.out.trans hk2)
        have HM2 := Lib.hid hm2
        have w17 := hm2.cells.2.1
        rw [HPC.out] at w17
        have wf := hm2.fz 17
        refine hK.out _ _ trivial (fun hHeld => ?_)
        clear hK K hk2 hm2
        refine take_at 7 5 (v := ?_) rfl rfl (by kernel_rfl) (by kernel_rfl) (by kernel_rfl) (fun _ _ _ h => h) rfl ?_ hHeld ?_
        rotate_left
        · intro w hSw
          go_simp
          try with_reducible rfl
        simp only [List.setIfInBounds_toArray, List.set_cons_zero, List.set_cons_succ]
        refine wpAnyH_done (by kernel_rfl) ?_ _
        refine NoPanic.normal ?_
        go_wp2_with (first | (go_at_call 30; refine (HBH.out _).mono ?_; rintro e w' ⟨rfl, rfl⟩) | fail)
        go_ret2
        exact ⟨by rw [HD.out]; rfl, HK2.out.trans (Kept.cell ⟨g, 17, none⟩ _), fun _ => ⟨_, _, by rw [HMM.out]; exact HM2.out.setpc (m.pc + 2)⟩⟩
      · have z := HMY.out.cells.2.1
        go_simp
        refine hK.out _ _ trivial (fun hHeld => ?_)
        clear hK K z
        refine wpAnyH_ready (rs := [1]) (by kernel_rfl) (by simp) ?_
        refine AllReadyH.cons rfl (fun K hK => ?_) AllReadyH.nil
        have z0 := cell_of_block (i := 0) HQY.out rfl
        have z1 := cell_of_block (i := 1) HQY.out rfl
        have z2 := cell_of_block (i := 2) HQY.out rfl
        have z3 := cell_of_block (i := 3) HQY.out rfl
        go_simp
        refine hK.out _ _ trivial (fun hHeld => ?_)
        clear hK K z0 z1 z2 z3
        refine wpAnyH_ready (rs := [6]) (by kernel_rfl) (by simp) ?_
        refine AllReadyH.cons rfl (fun K hK => ?_) AllReadyH.nil
        go_simp
        refine (HDO.out Y HMY.out).mono ?_
        rintro e W2 ⟨rfl, hp2⟩
        obtain ⟨hk2, ta2, tc2, hm2⟩ := hp2
        have HK2 := Lib.hid (HKY.out.trans hk2)
        have HM2 := Lib.hid hm2
        have w17 := hm2.cells.2.1
        rw [HPC.out] at w17
        have wf := hm2.fz 17
        refine hK.out _ _ trivial (fun hHeld => ?_)
        clear hK K hk2 hm2
        refine take_at 7 5 (v := ?_) rfl rfl (by kernel_rfl) (by kernel_rfl) (by kernel_rfl) (fun _ _ _ h => h) rfl ?_ hHeld ?_
        rotate_left
        · intro w hSw
          go_simp
          try with_reducible rfl
        simp only [List.setIfInBounds_toArray, List.set_cons_zero, List.set_cons_succ]
        refine wpAnyH_done (by kernel_rfl) ?_ _
        refine NoPanic.normal ?_
        go_wp2_with (first | (go_at_call 30; refine (HBH.out _).mono ?_; rintro e w' ⟨rfl, rfl⟩) | fail)
        go_ret2
        exact ⟨by rw [HD.out]; rfl, HK2.out.trans (Kept.cell ⟨g, 17, none⟩ _), fun _ => ⟨_, _, by rw [HMM.out]; exact HM2.out.setpc (m.pc + 2)⟩⟩
    · go_simp
      generalize hWn : World.alloc V0 _ = V1
      have hb : Below V0.heap.size V0 V1 := by rw [← hWn]; exact oalloc _ _
      have HQ1 : Hid (V1.heap[V0.heap.size]? = some (.cells #[.int .i64 0, .int .i64 0, .int .i64 0, .int .i64 0] 71 (0, 0))) := by unfold Hid; rw [← hWn]; exact blk_new V0 _ _
      have hH1 := hHeld.next hb
      have HB1 := Lib.hid (HB0.out.trans (hb.mono HB0.out.size))
      have HQL := Lib.hid HB0.out.size
      refine hK.out _ _ hH1 (fun hHeld => ?_)
      clear hK K hb hH1 hWn HB0
      refine wpAnyH_ready (rs := [8]) (by kernel_rfl) (by simp) ?_
      refine AllReadyH.cons rfl (fun K hK => ?_) AllReadyH.nil
      go_simp
      refine (HI.out V1 hHeld HB1.out).mono ?_
      rintro e V2 ⟨rfl, hb⟩
      have hH1 := hHeld.next hb
      have HB2 := Lib.hid (HB1.out.trans (hb.mono HB1.out.size))
      have HQ2 := Lib.hid ((hb.block _ (Array.getElem?_eq_some_iff.1 HQ1.out).1).trans HQ1.out)
      refine hK.out _ _ hH1 (fun hHeld => ?_)
      clear hK K hb hH1 HB1 HQ1
      refine take_at 9 6 (v := ?_) rfl rfl (by kernel_rfl) (by kernel_rfl) (by kernel_rfl) (fun _ _ _ h => h) rfl ?_ hHeld ?_
      rotate_left
      · intro w hSw
        go_simp
        try with_reducible rfl
      simp only [List.setIfInBounds_toArray, List.set_cons_zero, List.set_cons_succ]
      refine take_at 10 16 (v := ?_) rfl rfl (by kernel_rfl) (by kernel_rfl) (by kernel_rfl) (fun _ _ _ h => h) rfl ?_ hHeld ?_
      rotate_left
      · intro w hSw
        go_simp
        try with_reducible rfl
      simp only [List.setIfInBounds_toArray, List.set_cons_zero, List.set_cons_succ]
      refine take_at 11 17 (v := ?_) rfl rfl (by kernel_rfl) (by kernel_rfl) (by kernel_rfl) (fun _ _ _ h => h) rfl ?_ hHeld ?_
      rotate_left
      · intro w hSw
        go_simp
        try with_reducible rfl
      simp only [List.setIfInBounds_toArray, List.set_cons_zero, List.set_cons_succ]
      refine wpAnyH_ready (rs := [13]) (by kernel_rfl) (by simp) ?_
      refine AllReadyH.cons rfl (fun K hK => ?_) AllReadyH.nil
      obtain ⟨x0, x1, x2, x3, f0, f1, f2, f3, hq⟩ := four_new HQ2.out (.int .i64 d0) (.int .i64 d1) (.int .i64 d2) (.int .i64 d3)
      have HX := Lib.hid hq
      have hb := four_bel (Below.refl W.heap.size V2) HQL.out (.int .i64 d0) (.int .i64 d1) (.int .i64 d2) (.int .i64 d3)
      have HBX := Lib.hid (HB2.out.trans hb)
      have hMX := HW.out.next HBX.out
      clear hq hb
      go_simp
      refine hK.out _ _ hMX (fun hHeld => ?_)
      clear hK K hMX x0 x1 x2 x3 f0 f1 f2 f3 HB2 HQ2
      generalize (((World.setCell V2 ⟨V0.heap.size, 0, none⟩ (.int .i64 d0)).setCell ⟨V0.heap.size, 1, none⟩ (.int .i64 d1)).setCell ⟨V0.heap.size, 2, none⟩ (.int .i64 d2)).setCell ⟨V0.heap.size, 3, none⟩ (.int .i64 d3) = X at *
      generalize V0.heap.size = q at *
      refine take_at 14 5 (v := ?_) rfl rfl (by kernel_rfl) (by kernel_rfl) (by kernel_rfl) (fun _ _ _ h => h) rfl ?_ hHeld ?_
      rotate_left
      · intro w hSw
        go_simp
        try with_reducible rfl
      simp only [List.setIfInBounds_toArray, List.set_cons_zero, List.set_cons_succ]
      refine wpAnyH_done (by kernel_rfl) ?_ _
      refine NoPanic.normal ?_
      have hqg := box_ne hHeld HX.out
      have hgq : g ≠ q := fun e => hqg e.symm
      have y0 := cell_of_block (i := 0) HX.out rfl
      have y1 := cell_of_block (i := 1) HX.out rfl
      have y2 := cell_of_block (i := 2) HX.out rfl
      have y3 := cell_of_block (i := 3) HX.out rfl
      have x23 := hHeld.cells.2.2.2.2.2.2.2
      have xf := hHeld.fz 23
      have HMX := Lib.hid (hHeld.setst (m.st + 1))
      clear hHeld
      go_upto_region 9 with (first | (go_at_call 27; refine (HL.out _).mono ?_; rintro e w' ⟨rfl, rfl⟩) | fail)
      refine wp_region_noPanic ?_
      refine wp_region_held_drew (S := fun _ => True) (by kernel_rfl) trivial (fun hHeld => ?_)
      have HMY := Lib.hid (HMX.out.next (Below.refl _ _).drew)
      have HKY := Lib.hid (((HKN.out _ HBX.out).trans (Kept.cell (K := K) (gb := gb) ⟨g, 23, none⟩ (.int .i64 (m.st + 1)))).drew)
      have HQY : Hid ((X.setCell ⟨g, 23, none⟩ (.int .i64 (m.st + 1))).drew.heap[q]? = some (.cells #[.int .i64 d0, .int .i64 d1, .int .i64 d2, .int .i64 d3] 71 (0, 0))) := by
        show (X.setCell ⟨g, 23, none⟩ (.int .i64 (m.st + 1))).heap[q]? = _
        rw [Below.heap_setCell _ _ _ _ (by exact hqg)]
        exact HX.out
      clear HMX y0 y1 y2 y3 x23 xf
      generalize (X.setCell ⟨g, 23, none⟩ (.int .i64 (m.st + 1))).drew = Y at *
      refine take_at 0 42 (v := ?_) rfl rfl (by kernel_rfl) (by kernel_rfl) (by kernel_rfl) (fun _ _ _ h => h) rfl ?_ hHeld ?_
      rotate_left
      · intro w hSw
        go_simp
        try with_reducible rfl
      simp only [List.setIfInBounds_toArray, List.set_cons_zero, List.set_cons_succ]
      refine take_at 2 44 (v := ?_) rfl rfl (by kernel_rfl) (by kernel_rfl) (by kernel_rfl) (fun _ _ _ h => h) rfl ?_ hHeld ?_
      rotate_left
      · intro w hSw
        go_simp
        try with_reducible rfl
      simp only [List.setIfInBounds_toArray, List.set_cons_zero, List.set_cons_succ]
      refine take_at 3 45 (v := ?_) rfl rfl (by kernel_rfl) (by kernel_rfl) (by kernel_rfl) (fun _ _ _ h => h) rfl ?_ hHeld ?_
      rotate_left
      · intro w hSw
        go_simp
        try with_reducible rfl
      simp only [List.setIfInBounds_toArray, List.set_cons_zero, List.set_cons_succ]
      refine take_at 4 46 (v := ?_) rfl rfl (by kernel_rfl) (by kernel_rfl) (by kernel_rfl) (fun _ _ _ h => h) rfl ?_ hHeld ?_
      rotate_left
      · intro w hSw
        go_simp
        try with_reducible rfl
      simp only [List.setIfInBounds_toArray, List.set_cons_zero, List.set_cons_succ]
      refine wpAnyH_ready (rs := [1, 5]) (by kernel_rfl) (by simp) ?_
      refine AllReadyH.cons rfl (fun K hK => ?_) (AllReadyH.cons rfl (fun K hK => ?_) AllReadyH.nil)
      · have z0 := cell_of_block (i := 0) HQY.out rfl
        have z1 := cell_of_block (i := 1) HQY.out rfl
        have z2 := cell_of_block (i := 2) HQY.out rfl
        have z3 := cell_of_block (i := 3) HQY.out rfl
        go_simp
        refine hK.out _ _ trivial (fun hHeld => ?_)
        clear hK K z0 z1 z2 z3
        refine wpAnyH_ready (rs := [5]) (by kernel_rfl) (by simp) ?_
        refine AllReadyH.cons rfl (fun K hK => ?_) AllReadyH.nil
        have z := HMY.out.cells.2.1
        go_simp
        refine hK.out _ _ trivial (fun hHeld => ?_)
        clear hK K z
        refine wpAnyH_ready (rs := [6]) (by kernel_rfl) (by simp) ?_
        refine AllReadyH.cons rfl (fun K hK => ?_) AllReadyH.nil
        go_simp
        refine (HDO.out Y HMY.out).mono ?_
        rintro e W2 ⟨rfl, hp2⟩
        obtain ⟨hk2, ta2, tc2, hm2⟩ := hp2
        have HK2 := Lib.hid (HKY.out.trans hk2)
        have HM2 := Lib.hid hm2
        have w17 := hm2.cells.2.1
        rw [HPC.out] at w17
        have wf := hm2.fz 17
        refine hK.out _ _ trivial (fun hHeld => ?_)
        clear hK K hk2 hm2
        refine take_at 7 5 (v := ?_) rfl rfl (by kernel_rfl) (by kernel_rfl) (by kernel_rfl) (fun _ _ _ h => h) rfl ?_ hHeld ?_
        rotate_left
        · intro w hSw
          go_simp
          try with_reducible rfl
        simp only [List.setIfInBounds_toArray, List.set_cons_zero, List.set_cons_succ]
        refine wpAnyH_done (by kernel_rfl) ?_ _
        refine NoPanic.normal ?_
        go_wp2_with (first | (go_at_call 30; refine (HBH.out _).mono ?_; rintro e w' ⟨rfl, rfl⟩) | fail)
        go_ret2
        exact ⟨by rw [HD.out]; rfl, HK2.out.trans (Kept.cell ⟨g, 17, none⟩ _), fun _ => ⟨_, _, by rw [HMM.out]; exact HM2.out.setpc (m.pc + 2)⟩⟩
      · have z := HMY.out.cells.2.1
        go_simp
        refine hK.out _ _ trivial (fun hHeld => ?_)
        clear hK K z
        refine wpAnyH_ready (rs := [1]) (by kernel_rfl) (by simp) ?_
        refine AllReadyH.cons rfl (fun K hK => ?_) AllReadyH.nil
        have z0 := cell_of_block (i := 0) HQY.out rfl
        have z1 := cell_of_block (i := 1) HQY.out rfl
        have z2 := cell_of_block (i := 2) HQY.out rfl
        have z3 := cell_of_block (i := 3) HQY.out rfl
        go_simp
        refine hK.out _ _ trivial (fun hHeld => ?_)
        clear hK K z0 z1 z2 z3
        refine wpAnyH_ready (rs := [6]) (by kernel_rfl) (by simp) ?_
        refine AllReadyH.cons rfl (fun K hK => ?_) AllReadyH.nil
        go_simp
        refine (HDO.out Y HMY.out).mono ?_
        rintro e W2 ⟨rfl, hp2⟩
        obtain ⟨hk2, ta2, tc2, hm2⟩ := hp2
        have HK2 := Lib.hid (HKY.out.trans hk2)
        have HM2 := Lib.hid hm2
        have w17 := hm2.cells.2.1
        rw [HPC.out] at w17
        have wf := hm2.fz 17
        refine hK.out _ _ trivial (fun hHeld => ?_)
        clear hK K hk2 hm2
        refine take_at 7 5 (v := ?_) rfl rfl (by kernel_rfl) (by kernel_rfl) (by kernel_rfl) (fun _ _ _ h => h) rfl ?_ hHeld ?_
        rotate_left
        · intro w hSw
          go_simp
          try with_reducible rfl
        simp only [List.setIfInBounds_toArray, List.set_cons_zero, List.set_cons_succ]
        refine wpAnyH_done (by kernel_rfl) ?_ _
        refine NoPanic.normal ?_
        go_wp2_with (first | (go_at_call 30; refine (HBH.out _).mono ?_; rintro e w' ⟨rfl, rfl⟩) | fail)
        go_ret2
        exact ⟨by rw [HD.out]; rfl, HK2.out.trans (Kept.cell ⟨g, 17, none⟩ _), fun _ => ⟨_, _, by rw [HMM.out]; exact HM2.out.setpc (m.pc + 2)⟩⟩

/-- Such instructions alone come next. -/
def ResM (m : Ma) : Prop := (leadsB (fV m m.pc 0) = false → Res (fV m m.pc 0)) ∧ (leadsB (fV m m.pc 0) = true → ¬ (fV m m.pc 0 = 17 ∨ fV m m.pc 0 = 18) → Res (fV m (m.pc + 2) 0))
theorem pstep_any (K g : Nat) (m : Ma) (gb bc : Nat) (s0 : Option Addr) (s1 s2 : Nat) (ta : Option Addr) (tc : Nat) (k : Nat) (W : World) (h : MR K g m gb bc (.slice s0 s1 s2) ta tc W) (hR : Runs m k) (hk : k ≤ 100000) (hbc : m.by'.length ≤ bc) (hres : ResM m) :
    Calls Tryz.prog 16 #[.pointer (some ⟨g, 0, none⟩)] W (SpPost K g gb bc (.slice s0 s1 s2) m W) := by
  by_cases he : fetchE m m.pc = 0
  · by_cases hend : fV m m.pc 0 = 27 ∧ fV m m.pc 3 = 0
    · exact step_fin K g m gb bc s0 s1 s2 ta tc k W h hR hk hbc he hend
    · by_cases hl : leadsB (fV m m.pc 0) = true
      · exact step_lead K g m gb bc s0 s1 s2 ta tc k W h hR hk hbc he hl (hres.2 hl)
      · exact step_pln K g m gb bc s0 s1 s2 ta tc k W h hR hk hbc he hend (by simpa using hl) (hres.1 (by simpa using hl))
  · exact step_no K g m gb bc s0 s1 s2 ta tc k W h hR hk hbc he

end Go.Proofs.YtgjmbjahgcndnaaGreatDoor.Si
