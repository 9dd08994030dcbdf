/- The program's own sim: the instruction at a place; how a machine lies that is written to. -/
import Derived.Test.YtabepbaldadmgaaDoorSnA
import Derived.Test.YtabepbaldadmgaaDoorSnT
import Derived.Test.YtabepbaldadmgaaDoorSmI
namespace Go.Proofs.YtabepbaldadmgaaDoor
open Go.RowKit Isa


set_option maxHeartbeats 2000000 in
theorem instr_any (m : Ma) (ba : Option Addr) (bc : Nat) (sv : Value) (a : Int) (w : World) (hR : BRd w ba m.by') (hL : Laid w) (hb0 : 0 ≤ m.base) (hb1 : m.base ≤ 1048576) (hl : m.by'.length ≤ 140737488355328) (ha0 : -4611686018427387904 ≤ a) (ha1 : a ≤ 4611686018427387904) :
    Calls Tryd.prog 32 #[.agg #[.int .i64 m.base, .slice ba m.by'.length bc, sv], .int .i64 a] w fun e w' => e = .returned (.tuple #[.agg #[.int .i64 (fV m a 0), .int .i64 (fV m a 1), .int .i64 (fV m a 2), .int .i64 (fV m a 3)], .int .i64 (fetchE m a)]) ∧ Below w.heap.size w w' := by
  obtain ⟨V, hV⟩ : ∃ V, V = (w.alloc (.cells #[.int .i64 m.base, .slice ba m.by'.length bc, sv] 26)).alloc (.cells #[.int .i64 0, .int .i64 0, .int .i64 0, .int .i64 0] 45) := ⟨_, rfl⟩
  have hV0 : Below w.heap.size w V := by rw [hV]; exact (oalloc _ _).trans ((oalloc _ _).mono (by simp))
  have hV1 : V.heap[w.heap.size]? = some (.cells #[.int .i64 m.base, .slice ba m.by'.length bc, sv] 26 (0, 0)) := by rw [hV, (oalloc _ _).block _ (by simp)]; exact blk_new _ _ _
  have hV2 : V.heap[w.heap.size + 1]? = some (.cells #[.int .i64 0, .int .i64 0, .int .i64 0, .int .i64 0] 45 (0, 0)) := by
    rw [hV]
    have := blk_new (w.alloc (.cells #[.int .i64 m.base, .slice ba m.by'.length bc, sv] 26)) #[.int .i64 0, .int .i64 0, .int .i64 0, .int .i64 0] 45
    simpa using this
  have HH := Lib.hid (there_any m ba bc sv a 2 V (Or.inl rfl) hb0 hb1 hl ha0 ha1)
  have c0 := cell_of_block (i := 0) hV1 rfl
  have c1 := cell_of_block (i := 1) hV1 rfl
  have c2 := cell_of_block (i := 2) hV1 rfl
  have HV := Lib.hid hV.symm
  clear hV
  have HV0 := Lib.hid hV0
  have HV1 := Lib.hid hV1
  have HV2 := Lib.hid hV2
  have hlt1 := (Array.getElem?_eq_some_iff.1 hV1).1
  have hlt2 := (Array.getElem?_eq_some_iff.1 hV2).1
  clear hV0 hV1 hV2
  by_cases hh : hasB m a 2 = true
  · have e0 : fV m a 0 = dV (wordS m a) 0 := by unfold fV; rw [if_pos hh]
    have e1 : fV m a 1 = dV (wordS m a) 1 := by unfold fV; rw [if_pos hh]
    have e2 : fV m a 2 = dV (wordS m a) 2 := by unfold fV; rw [if_pos hh]
    have e3 : fV m a 3 = dV (wordS m a) 3 := by unfold fV; rw [if_pos hh]
    have e4 : fetchE m a = decE (wordS m a) := by unfold fetchE; rw [if_pos hh]
    rw [e0, e1, e2, e3, e4]
    obtain ⟨q1, q2, q3⟩ := hasB_in hh
    have HG : Hid (∀ W, Below w.heap.size w W → Calls Tryd.prog 42 #[.slice ba m.by'.length bc, .int .i64 (a - m.base), .int .i64 2] W fun e w' => e = .returned (.int .i64 (wordS m a)) ∧ W = w') := fun W hb => (get_any ba m.by'.length bc (bsOf m.by') (a - m.base) 2 W (bsOf_byte _) (by unfold maxLen; omega) (fun h => by
      obtain ⟨b, off, e, _, hc⟩ := (hR.next hb) h
      exact ⟨b, off, e, hc⟩) (by omega) (by omega) (by omega) (by omega)).mono fun _ _ ⟨h1, h2⟩ => ⟨h1, h2.symm⟩
    have HD : Hid (∀ W, Below w.heap.size w W → Calls Tryd.prog 41 #[.int .i64 (wordS m a)] W fun e w' => e = .returned (.tuple #[.agg #[.int .i64 (dV (wordS m a) 0), .int .i64 (dV (wordS m a) 1), .int .i64 (dV (wordS m a) 2), .int .i64 (dV (wordS m a) 3)], .int .i64 (decE (wordS m a))]) ∧ Below W.heap.size W w') := fun W hb => by
      have := decode_any (wordS m a) W (hL.below hb hL.sz)
      rw [(dV_all (wordS m a)).1] at this
      exact this
    rw [hh] at HH
    clear hh e0 e1 e2 e3 e4 hR hL q1 q2 q3
    generalize wordS m a = x at *
    generalize decE x = ee at *
    generalize dV x 0 = d0 at *
    generalize dV x 1 = d1 at *
    generalize dV x 2 = d2 at *
    generalize dV x 3 = d3 at *
    go_enter Tryd.func32, Tryd.ntmps32
    go_upto_region 1 with fail
    rw [HV.out]
    go_wp2_with (first | (go_at_call 40; refine HH.out.mono ?_; rintro e W1 ⟨rfl, hb1⟩; have k1 := (hb1.block _ hlt1).trans HV1.out; have K2 := Lib.hid ((hb1.block _ hlt2).trans HV2.out); have c20 : W1.cell? ⟨w.heap.size, 1, none⟩ = some (.slice ba m.by'.length bc) := cell_of_block (i := 1) k1 rfl; have HB1 := Lib.hid (HV0.out.trans (hb1.mono HV0.out.size)); clear hb1 k1) | (go_at_call 42; refine (HG.out _ HB1.out).mono ?_; rintro e w' ⟨rfl, rfl⟩) | (go_at_call 41; refine (HD.out _ HB1.out).mono ?_; rintro e W2 ⟨rfl, hb2⟩; have kk := (hb2.block _ (Array.getElem?_eq_some_iff.1 K2.out).1).trans K2.out; have HB2 := Lib.hid (HB1.out.trans (hb2.mono HB1.out.size)); have z0 := blk_froz (i := 0) kk; have z1 := blk_froz (i := 1) kk; have z2 := blk_froz (i := 2) kk; have z3 := blk_froz (i := 3) kk; have y0 : W2.cell? ⟨w.heap.size + 1, 0, none⟩ = some (.int .i64 0) := cell_of_block (i := 0) kk rfl; have y1 : W2.cell? ⟨w.heap.size + 1, 1, none⟩ = some (.int .i64 0) := cell_of_block (i := 1) kk rfl; have y2 : W2.cell? ⟨w.heap.size + 1, 2, none⟩ = some (.int .i64 0) := cell_of_block (i := 2) kk rfl; have y3 : W2.cell? ⟨w.heap.size + 1, 3, none⟩ = some (.int .i64 0) := cell_of_block (i := 3) kk rfl; have hlt := (Array.getElem?_eq_some_iff.1 kk).1; clear hb2 kk) | fail)
    refine bodyPost_ret (v := .tuple #[.agg #[.int .i64 d0, .int .i64 d1, .int .i64 d2, .int .i64 d3], .int .i64 ee]) (by simp [results, Tryd.results32, go_sem, y0, y1, y2, y3]) rfl ⟨rfl, four HB2.out (Nat.le_succ _) _ _ _ _⟩
  · have hh' : hasB m a 2 = false := by simpa using hh
    have e : ∀ i, fV m a i = 0 := fun i => by unfold fV; rw [if_neg hh]
    have e4 : fetchE m a = 6 := by unfold fetchE; rw [if_neg hh]
    rw [e, e, e, e, e4]
    rw [hh'] at HH
    clear hh hh' e e4 hR hL
    go_enter Tryd.func32, Tryd.ntmps32
    go_upto_region 1 with fail
    rw [HV.out]
    go_wp2_with (first | (go_at_call 40; refine HH.out.mono ?_; rintro e W2 ⟨rfl, hb1⟩; have kk := (hb1.block _ hlt2).trans HV2.out; have z0 := blk_froz (i := 0) kk; have z1 := blk_froz (i := 1) kk; have z2 := blk_froz (i := 2) kk; have z3 := blk_froz (i := 3) kk; have y0 : W2.cell? ⟨w.heap.size + 1, 0, none⟩ = some (.int .i64 0) := cell_of_block (i := 0) kk rfl; have y1 : W2.cell? ⟨w.heap.size + 1, 1, none⟩ = some (.int .i64 0) := cell_of_block (i := 1) kk rfl; have y2 : W2.cell? ⟨w.heap.size + 1, 2, none⟩ = some (.int .i64 0) := cell_of_block (i := 2) kk rfl; have y3 : W2.cell? ⟨w.heap.size + 1, 3, none⟩ = some (.int .i64 0) := cell_of_block (i := 3) kk rfl; have hlt := (Array.getElem?_eq_some_iff.1 kk).1; have HB1 := Lib.hid (HV0.out.trans (hb1.mono HV0.out.size)); clear hb1 kk) | fail)
    refine bodyPost_ret (v := .tuple #[.agg #[.int .i64 0, .int .i64 0, .int .i64 0, .int .i64 0], .int .i64 6]) (by simp [results, Tryd.results32, go_sem, y0, y1, y2, y3]) rfl ⟨rfl, four HB1.out (Nat.le_succ _) _ _ _ _⟩

end Go.Proofs.YtabepbaldadmgaaDoor
