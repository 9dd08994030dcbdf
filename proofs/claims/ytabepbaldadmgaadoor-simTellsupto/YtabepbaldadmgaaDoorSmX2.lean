/- The document's own Step: what leads elsewhere behind the next one. -/
import Derived.Test.YtabepbaldadmgaaDoorSmK
import Derived.Test.YtabepbaldadmgaaDoorSmL
namespace Go.Proofs.YtabepbaldadmgaaDoor
open Go.RowKit Isa

set_option maxRecDepth 100000 in
set_option maxHeartbeats 8000000 in
theorem step_d2f (hDec : DecOk) (m : Ma) (ba : Option Addr) (bc : Nat) (s0 : Option Addr) (s1 s2 : Nat) (ta : Option Addr) (tc : Nat) (w : World) (hM : MOk m) (hp0 : -2147483648 ≤ m.pc) (hp1 : m.pc ≤ 4294967296) (hs0 : 0 ≤ m.st) (hs1 : m.st ≤ 1000000000) (hR : BRd w ba m.by') (he : fetchE m m.pc = 0) (h0 : fV m m.pc 0 = 2) (hpc : 0 ≤ m.pc) (hj : fetchE ({ m with st := m.st + 1 }) (m.pc + 2) ≠ 0) :
    Calls Tryd.prog 8 #[.agg (mC m ba bc (.slice s0 s1 s2) ta tc)] w fun e w' => e = .returned (.tuple #[.agg zC, .bool false, .int .i64 (fetchE ({ m with st := m.st + 1 }) (m.pc + 2))]) ∧ Below w.heap.size w w' := by
  have HS : Hid (SB w m ba bc (.slice s0 s1 s2) ta tc ((w.alloc (.cells (mC m ba bc (.slice s0 s1 s2) ta tc) 29)).alloc (.cells #[.int .i64 0, .int .i64 0, .int .i64 0, .int .i64 0, .int .i64 0, .int .i64 0, .int .i64 0, .int .i64 0, .int .i64 0, .int .i64 0, .int .i64 0, .int .i64 0, .int .i64 0, .int .i64 0, .int .i64 0, .int .i64 0, .bool false, .int .i64 0, .int .i64 0, .int .i64 0, .slice none 0 0, .slice none 0 0, .slice none 0 0, .int .i64 0] 29))) := SB.start w m ba bc (.slice s0 s1 s2) ta tc _ rfl
  have HF := Lib.hid (fetch_any hDec m ba bc (.slice s0 s1 s2) ta tc m.pc ((w.alloc (.cells (mC m ba bc (.slice s0 s1 s2) ta tc) 29)).alloc (.cells #[.int .i64 0, .int .i64 0, .int .i64 0, .int .i64 0, .int .i64 0, .int .i64 0, .int .i64 0, .int .i64 0, .int .i64 0, .int .i64 0, .int .i64 0, .int .i64 0, .int .i64 0, .int .i64 0, .int .i64 0, .int .i64 0, .bool false, .int .i64 0, .int .i64 0, .int .i64 0, .slice none 0 0, .slice none 0 0, .slice none 0 0, .int .i64 0] 29)) (hR.next HS.out.bel) hM.b0 hM.b1 (by have := hM.bl; omega) (by omega) (by omega))
  have HNO := Lib.hid no_any
  have HLE := Lib.hid leads_any
  rw [he] at HF
  obtain ⟨c16, c17, c18, c23, f17, f18, f23⟩ := HS.out.cells
  rw [h0] at HF
  obtain ⟨b1, b2, b3, b4, b5, b6⟩ := fV_bd m m.pc
  have HTO : Hid (∀ W, Calls Tryd.prog 26 #[.agg #[.int .i64 2, .int .i64 (fV m m.pc 1), .int .i64 (fV m m.pc 2), .int .i64 (fV m m.pc 3)], .int .i64 m.pc] W fun e w' => e = .returned (.tuple #[.int .i64 (toI 2 (fV m m.pc 3) m.pc), .bool (toB 2)]) ∧ Below W.heap.size W w') := fun W => rto_any 2 _ _ _ m.pc W hpc (by omega) b5 b6
  have HLD : Hid (∀ W, Calls Tryd.prog 24 #[.int .i64 2] W fun e w' => e = .returned (.bool true) ∧ W = w') := fun W => HLE.out 2 W
  have HF2 : Hid (∀ W, Below w.heap.size w W → Calls Tryd.prog 23 #[.agg (mC ({ m with st := m.st + 1 }) ba bc (.slice s0 s1 s2) ta tc), .int .i64 (m.pc + 2)] W fun e w' => e = .returned (.tuple #[.agg #[.int .i64 (fV ({ m with st := m.st + 1 }) (m.pc + 2) 0), .int .i64 (fV ({ m with st := m.st + 1 }) (m.pc + 2) 1), .int .i64 (fV ({ m with st := m.st + 1 }) (m.pc + 2) 2), .int .i64 (fV ({ m with st := m.st + 1 }) (m.pc + 2) 3)], .int .i64 (fetchE ({ m with st := m.st + 1 }) (m.pc + 2))]) ∧ Below W.heap.size W w') := fun W hb => fetch_any hDec ({ m with st := m.st + 1 }) ba bc (.slice s0 s1 s2) ta tc (m.pc + 2) W (hR.next hb) hM.b0 hM.b1 (Nat.le_trans hM.bl (by decide)) (by omega) (by omega)
  have hjb : (fetchE ({ m with st := m.st + 1 }) (m.pc + 2) != 0) = true := by simpa using hj
  clear hj
  clear hDec hR hM he h0 HLE b3 b4 b5 b6 b1 b2
  generalize toI 2 (fV m m.pc 3) m.pc = gl at HTO
  generalize fetchE ({ m with st := m.st + 1 }) (m.pc + 2) = fe at *
  generalize fV ({ m with st := m.st + 1 }) (m.pc + 2) 0 = j0 at *
  generalize fV ({ m with st := m.st + 1 }) (m.pc + 2) 1 = j1 at *
  generalize fV ({ m with st := m.st + 1 }) (m.pc + 2) 2 = j2 at *
  generalize fV ({ m with st := m.st + 1 }) (m.pc + 2) 3 = j3 at *
  generalize fV m m.pc 1 = d1 at *
  generalize fV m m.pc 2 = d2 at *
  generalize fV m m.pc 3 = d3 at *
  go_enter Tryd.func8, Tryd.ntmps8
  go_wp2_with (first | (refine wpList_load_row rfl 29 _ rfl w.heap.size rfl 29 (mC (m) ba bc (.slice s0 s1 s2) ta tc) (0, 0) _ HS.out.b1 Tryd.underlying29 rfl (mSize _ _ _ _ _ _) ?_) | (go_at_call 23; refine HF.out.mono ?_; rintro e W1 ⟨rfl, hb1⟩; have HS1 := Lib.hid (HS.out.next hb1); clear hb1 c16 c17 c18 c23 f17 f18 f23; obtain ⟨c16, c17, c18, c23, f17, f18, f23⟩ := HS1.out.cells; have hlt1 := HS1.out.lt; have HS2 := Lib.hid ((HS1.out.stp (m.st + 1)).next (oalloc _ (.cells #[.int .i64 2, .int .i64 d1, .int .i64 d2, .int .i64 d3] 45))); clear HS HF) | (go_at_call 24; refine (HLD.out _).mono ?_; rintro e w' ⟨rfl, rfl⟩; clear HLD) | (go_at_call 26; refine (HTO.out _).mono ?_; rintro e W4 ⟨rfl, hb4⟩; have HS4 := Lib.hid (HS2.out.next hb4); have kb := ins_box hb4; have i0 := cell_of_block (i := 0) kb rfl; have i1 := cell_of_block (i := 1) kb rfl; clear hb4 kb; obtain ⟨g16, g17, g18, g23, k17, k18, k23⟩ := HS4.out.cells; have HS5 := HS4; clear HS2 HS1 HTO) | (refine wpList_load_row rfl 29 _ rfl w.heap.size rfl 29 (mC ({ m with st := m.st + 1 }) ba bc (.slice s0 s1 s2) ta tc) (0, 0) _ HS5.out.b1 Tryd.underlying29 rfl (mSize _ _ _ _ _ _) ?_) | (go_at_call 23; refine (HF2.out _ HS5.out.bel).mono ?_; rintro e W6 ⟨rfl, hb6⟩; have HS6 := Lib.hid (HS5.out.next hb6); clear hb6; have hlt6 := HS6.out.lt; have HS7 := Lib.hid (HS6.out.next (oalloc W6 (.cells #[.int .i64 j0, .int .i64 j1, .int .i64 j2, .int .i64 j3] 45))); obtain ⟨m16, m17, m18, m23, n17, n18, n23⟩ := HS6.out.cells; clear HS5 HF2) | (go_at_call 22; refine (HNO.out _ _).mono ?_; rintro e W9 ⟨rfl, hb9⟩; have HS9 := Lib.hid (HS7.out.next hb9); clear hb9) | (refine wpList_store_row rfl 29 _ _ rfl (w.heap.size + 1) zC rfl rfl 29 zC HS9.out.b2 zSize rfl zAll ?_) | fail)
  exact bodyPost_ret (v := .tuple #[.agg zC, .bool false, .int .i64 fe]) (res_s Tryd.results8 rfl rfl rfl (setRow_heap _ _ _ _ _ _ HS9.out.b2) zSize) rfl ⟨rfl, below_setRow HS9.out.bel (by omega) _⟩

set_option maxRecDepth 100000 in
set_option maxHeartbeats 8000000 in
theorem step_d2l (hDec : DecOk) (m : Ma) (ba : Option Addr) (bc : Nat) (s0 : Option Addr) (s1 s2 : Nat) (ta : Option Addr) (tc : Nat) (w : World) (hM : MOk m) (hp0 : -2147483648 ≤ m.pc) (hp1 : m.pc ≤ 4294967296) (hs0 : 0 ≤ m.st) (hs1 : m.st ≤ 1000000000) (hR : BRd w ba m.by') (he : fetchE m m.pc = 0) (h0 : fV m m.pc 0 = 2) (hpc : 0 ≤ m.pc) (hj : fetchE ({ m with st := m.st + 1 }) (m.pc + 2) = 0) (hl : leadsB (fV ({ m with st := m.st + 1 }) (m.pc + 2) 0) = true) :
    Calls Tryd.prog 8 #[.agg (mC m ba bc (.slice s0 s1 s2) ta tc)] w fun e w' => e = .returned (.tuple #[.agg zC, .bool false, .int .i64 8]) ∧ Below w.heap.size w w' := by
  have HS : Hid (SB w m ba bc (.slice s0 s1 s2) ta tc ((w.alloc (.cells (mC m ba bc (.slice s0 s1 s2) ta tc) 29)).alloc (.cells #[.int .i64 0, .int .i64 0, .int .i64 0, .int .i64 0, .int .i64 0, .int .i64 0, .int .i64 0, .int .i64 0, .int .i64 0, .int .i64 0, .int .i64 0, .int .i64 0, .int .i64 0, .int .i64 0, .int .i64 0, .int .i64 0, .bool false, .int .i64 0, .int .i64 0, .int .i64 0, .slice none 0 0, .slice none 0 0, .slice none 0 0, .int .i64 0] 29))) := SB.start w m ba bc (.slice s0 s1 s2) ta tc _ rfl
  have HF := Lib.hid (fetch_any hDec m ba bc (.slice s0 s1 s2) ta tc m.pc ((w.alloc (.cells (mC m ba bc (.slice s0 s1 s2) ta tc) 29)).alloc (.cells #[.int .i64 0, .int .i64 0, .int .i64 0, .int .i64 0, .int .i64 0, .int .i64 0, .int .i64 0, .int .i64 0, .int .i64 0, .int .i64 0, .int .i64 0, .int .i64 0, .int .i64 0, .int .i64 0, .int .i64 0, .int .i64 0, .bool false, .int .i64 0, .int .i64 0, .int .i64 0, .slice none 0 0, .slice none 0 0, .slice none 0 0, .int .i64 0] 29)) (hR.next HS.out.bel) hM.b0 hM.b1 (by have := hM.bl; omega) (by omega) (by omega))
  have HNO := Lib.hid no_any
  have HLE := Lib.hid leads_any
  rw [he] at HF
  obtain ⟨c16, c17, c18, c23, f17, f18, f23⟩ := HS.out.cells
  rw [h0] at HF
  obtain ⟨b1, b2, b3, b4, b5, b6⟩ := fV_bd m m.pc
  have HTO : Hid (∀ W, Calls Tryd.prog 26 #[.agg #[.int .i64 2, .int .i64 (fV m m.pc 1), .int .i64 (fV m m.pc 2), .int .i64 (fV m m.pc 3)], .int .i64 m.pc] W fun e w' => e = .returned (.tuple #[.int .i64 (toI 2 (fV m m.pc 3) m.pc), .bool (toB 2)]) ∧ Below W.heap.size W w') := fun W => rto_any 2 _ _ _ m.pc W hpc (by omega) b5 b6
  have HLD : Hid (∀ W, Calls Tryd.prog 24 #[.int .i64 2] W fun e w' => e = .returned (.bool true) ∧ W = w') := fun W => HLE.out 2 W
  have HF2 : Hid (∀ W, Below w.heap.size w W → Calls Tryd.prog 23 #[.agg (mC ({ m with st := m.st + 1 }) ba bc (.slice s0 s1 s2) ta tc), .int .i64 (m.pc + 2)] W fun e w' => e = .returned (.tuple #[.agg #[.int .i64 (fV ({ m with st := m.st + 1 }) (m.pc + 2) 0), .int .i64 (fV ({ m with st := m.st + 1 }) (m.pc + 2) 1), .int .i64 (fV ({ m with st := m.st + 1 }) (m.pc + 2) 2), .int .i64 (fV ({ m with st := m.st + 1 }) (m.pc + 2) 3)], .int .i64 (fetchE ({ m with st := m.st + 1 }) (m.pc + 2))]) ∧ Below W.heap.size W w') := fun W hb => fetch_any hDec ({ m with st := m.st + 1 }) ba bc (.slice s0 s1 s2) ta tc (m.pc + 2) W (hR.next hb) hM.b0 hM.b1 (Nat.le_trans hM.bl (by decide)) (by omega) (by omega)
  rw [hj] at HF2
  have HLJ : Hid (∀ W, Calls Tryd.prog 24 #[.int .i64 (fV ({ m with st := m.st + 1 }) (m.pc + 2) 0)] W fun e w' => e = .returned (.bool true) ∧ W = w') := fun W => by
    have := HLE.out (fV ({ m with st := m.st + 1 }) (m.pc + 2) 0) W
    rw [hl] at this
    exact this
  clear hj hl
  clear hDec hR hM he h0 HLE b3 b4 b5 b6 b1 b2
  generalize toI 2 (fV m m.pc 3) m.pc = gl at HTO
  generalize fV ({ m with st := m.st + 1 }) (m.pc + 2) 0 = j0 at *
  generalize fV ({ m with st := m.st + 1 }) (m.pc + 2) 1 = j1 at *
  generalize fV ({ m with st := m.st + 1 }) (m.pc + 2) 2 = j2 at *
  generalize fV ({ m with st := m.st + 1 }) (m.pc + 2) 3 = j3 at *
  generalize fV m m.pc 1 = d1 at *
  generalize fV m m.pc 2 = d2 at *
  generalize fV m m.pc 3 = d3 at *
  go_enter Tryd.func8, Tryd.ntmps8
  go_wp2_with (first | (refine wpList_load_row rfl 29 _ rfl w.heap.size rfl 29 (mC (m) ba bc (.slice s0 s1 s2) ta tc) (0, 0) _ HS.out.b1 Tryd.underlying29 rfl (mSize _ _ _ _ _ _) ?_) | (go_at_call 23; refine HF.out.mono ?_; rintro e W1 ⟨rfl, hb1⟩; have HS1 := Lib.hid (HS.out.next hb1); clear hb1 c16 c17 c18 c23 f17 f18 f23; obtain ⟨c16, c17, c18, c23, f17, f18, f23⟩ := HS1.out.cells; have hlt1 := HS1.out.lt; have HS2 := Lib.hid ((HS1.out.stp (m.st + 1)).next (oalloc _ (.cells #[.int .i64 2, .int .i64 d1, .int .i64 d2, .int .i64 d3] 45))); clear HS HF) | (go_at_call 24; refine (HLD.out _).mono ?_; rintro e w' ⟨rfl, rfl⟩; clear HLD) | (go_at_call 26; refine (HTO.out _).mono ?_; rintro e W4 ⟨rfl, hb4⟩; have HS4 := Lib.hid (HS2.out.next hb4); have kb := ins_box hb4; have i0 := cell_of_block (i := 0) kb rfl; have i1 := cell_of_block (i := 1) kb rfl; clear hb4 kb; obtain ⟨g16, g17, g18, g23, k17, k18, k23⟩ := HS4.out.cells; have HS5 := HS4; clear HS2 HS1 HTO) | (refine wpList_load_row rfl 29 _ rfl w.heap.size rfl 29 (mC ({ m with st := m.st + 1 }) ba bc (.slice s0 s1 s2) ta tc) (0, 0) _ HS5.out.b1 Tryd.underlying29 rfl (mSize _ _ _ _ _ _) ?_) | (go_at_call 23; refine (HF2.out _ HS5.out.bel).mono ?_; rintro e W6 ⟨rfl, hb6⟩; have HS6 := Lib.hid (HS5.out.next hb6); clear hb6; have hlt6 := HS6.out.lt; have HS7 := Lib.hid (HS6.out.next (oalloc W6 (.cells #[.int .i64 j0, .int .i64 j1, .int .i64 j2, .int .i64 j3] 45))); obtain ⟨m16, m17, m18, m23, n17, n18, n23⟩ := HS6.out.cells; clear HS5 HF2) | (go_at_call 24; refine (HLJ.out _).mono ?_; rintro e w' ⟨rfl, rfl⟩) | (go_at_call 22; refine (HNO.out _ _).mono ?_; rintro e W9 ⟨rfl, hb9⟩; have HS9 := Lib.hid (HS7.out.next hb9); clear hb9) | (refine wpList_store_row rfl 29 _ _ rfl (w.heap.size + 1) zC rfl rfl 29 zC HS9.out.b2 zSize rfl zAll ?_) | fail)
  exact bodyPost_ret (v := .tuple #[.agg zC, .bool false, .int .i64 8]) (res_s Tryd.results8 rfl rfl rfl (setRow_heap _ _ _ _ _ _ HS9.out.b2) zSize) rfl ⟨rfl, below_setRow HS9.out.bel (by omega) _⟩

set_option maxRecDepth 100000 in
set_option maxHeartbeats 8000000 in
theorem step_d2t (hDec : DecOk) (m : Ma) (ba : Option Addr) (bc : Nat) (s0 : Option Addr) (s1 s2 : Nat) (ta : Option Addr) (tc : Nat) (w : World) (hM : MOk m) (hp0 : -2147483648 ≤ m.pc) (hp1 : m.pc ≤ 4294967296) (hs0 : 0 ≤ m.st) (hs1 : m.st ≤ 1000000000) (hR : BRd w ba m.by') (he : fetchE m m.pc = 0) (h0 : fV m m.pc 0 = 2) (hpc : 0 ≤ m.pc) (hj : fetchE ({ m with st := m.st + 1 }) (m.pc + 2) = 0) (hl : leadsB (fV ({ m with st := m.st + 1 }) (m.pc + 2) 0) = false) (h27 : fV ({ m with st := m.st + 1 }) (m.pc + 2) 0 = 27) :
    Calls Tryd.prog 8 #[.agg (mC m ba bc (.slice s0 s1 s2) ta tc)] w fun e w' => e = .returned (.tuple #[.agg zC, .bool false, .int .i64 8]) ∧ Below w.heap.size w w' := by
  have HS : Hid (SB w m ba bc (.slice s0 s1 s2) ta tc ((w.alloc (.cells (mC m ba bc (.slice s0 s1 s2) ta tc) 29)).alloc (.cells #[.int .i64 0, .int .i64 0, .int .i64 0, .int .i64 0, .int .i64 0, .int .i64 0, .int .i64 0, .int .i64 0, .int .i64 0, .int .i64 0, .int .i64 0, .int .i64 0, .int .i64 0, .int .i64 0, .int .i64 0, .int .i64 0, .bool false, .int .i64 0, .int .i64 0, .int .i64 0, .slice none 0 0, .slice none 0 0, .slice none 0 0, .int .i64 0] 29))) := SB.start w m ba bc (.slice s0 s1 s2) ta tc _ rfl
  have HF := Lib.hid (fetch_any hDec m ba bc (.slice s0 s1 s2) ta tc m.pc ((w.alloc (.cells (mC m ba bc (.slice s0 s1 s2) ta tc) 29)).alloc (.cells #[.int .i64 0, .int .i64 0, .int .i64 0, .int .i64 0, .int .i64 0, .int .i64 0, .int .i64 0, .int .i64 0, .int .i64 0, .int .i64 0, .int .i64 0, .int .i64 0, .int .i64 0, .int .i64 0, .int .i64 0, .int .i64 0, .bool false, .int .i64 0, .int .i64 0, .int .i64 0, .slice none 0 0, .slice none 0 0, .slice none 0 0, .int .i64 0] 29)) (hR.next HS.out.bel) hM.b0 hM.b1 (by have := hM.bl; omega) (by omega) (by omega))
  have HNO := Lib.hid no_any
  have HLE := Lib.hid leads_any
  rw [he] at HF
  obtain ⟨c16, c17, c18, c23, f17, f18, f23⟩ := HS.out.cells
  rw [h0] at HF
  obtain ⟨b1, b2, b3, b4, b5, b6⟩ := fV_bd m m.pc
  have HTO : Hid (∀ W, Calls Tryd.prog 26 #[.agg #[.int .i64 2, .int .i64 (fV m m.pc 1), .int .i64 (fV m m.pc 2), .int .i64 (fV m m.pc 3)], .int .i64 m.pc] W fun e w' => e = .returned (.tuple #[.int .i64 (toI 2 (fV m m.pc 3) m.pc), .bool (toB 2)]) ∧ Below W.heap.size W w') := fun W => rto_any 2 _ _ _ m.pc W hpc (by omega) b5 b6
  have HLD : Hid (∀ W, Calls Tryd.prog 24 #[.int .i64 2] W fun e w' => e = .returned (.bool true) ∧ W = w') := fun W => HLE.out 2 W
  have HF2 : Hid (∀ W, Below w.heap.size w W → Calls Tryd.prog 23 #[.agg (mC ({ m with st := m.st + 1 }) ba bc (.slice s0 s1 s2) ta tc), .int .i64 (m.pc + 2)] W fun e w' => e = .returned (.tuple #[.agg #[.int .i64 (fV ({ m with st := m.st + 1 }) (m.pc + 2) 0), .int .i64 (fV ({ m with st := m.st + 1 }) (m.pc + 2) 1), .int .i64 (fV ({ m with st := m.st + 1 }) (m.pc + 2) 2), .int .i64 (fV ({ m with st := m.st + 1 }) (m.pc + 2) 3)], .int .i64 (fetchE ({ m with st := m.st + 1 }) (m.pc + 2))]) ∧ Below W.heap.size W w') := fun W hb => fetch_any hDec ({ m with st := m.st + 1 }) ba bc (.slice s0 s1 s2) ta tc (m.pc + 2) W (hR.next hb) hM.b0 hM.b1 (Nat.le_trans hM.bl (by decide)) (by omega) (by omega)
  rw [hj] at HF2
  have HLJ : Hid (∀ W, Calls Tryd.prog 24 #[.int .i64 (fV ({ m with st := m.st + 1 }) (m.pc + 2) 0)] W fun e w' => e = .returned (.bool false) ∧ W = w') := fun W => by
    have := HLE.out (fV ({ m with st := m.st + 1 }) (m.pc + 2) 0) W
    rw [hl] at this
    exact this
  rw [h27] at HLJ HF2
  clear h27 hj hl
  clear hDec hR hM he h0 HLE b3 b4 b5 b6 b1 b2
  generalize toI 2 (fV m m.pc 3) m.pc = gl at HTO
  generalize fV ({ m with st := m.st + 1 }) (m.pc + 2) 1 = j1 at *
  generalize fV ({ m with st := m.st + 1 }) (m.pc + 2) 2 = j2 at *
  generalize fV ({ m with st := m.st + 1 }) (m.pc + 2) 3 = j3 at *
  generalize fV m m.pc 1 = d1 at *
  generalize fV m m.pc 2 = d2 at *
  generalize fV m m.pc 3 = d3 at *
  go_enter Tryd.func8, Tryd.ntmps8
  go_wp2_with (first | (refine wpList_load_row rfl 29 _ rfl w.heap.size rfl 29 (mC (m) ba bc (.slice s0 s1 s2) ta tc) (0, 0) _ HS.out.b1 Tryd.underlying29 rfl (mSize _ _ _ _ _ _) ?_) | (go_at_call 23; refine HF.out.mono ?_; rintro e W1 ⟨rfl, hb1⟩; have HS1 := Lib.hid (HS.out.next hb1); clear hb1 c16 c17 c18 c23 f17 f18 f23; obtain ⟨c16, c17, c18, c23, f17, f18, f23⟩ := HS1.out.cells; have hlt1 := HS1.out.lt; have HS2 := Lib.hid ((HS1.out.stp (m.st + 1)).next (oalloc _ (.cells #[.int .i64 2, .int .i64 d1, .int .i64 d2, .int .i64 d3] 45))); clear HS HF) | (go_at_call 24; refine (HLD.out _).mono ?_; rintro e w' ⟨rfl, rfl⟩; clear HLD) | (go_at_call 26; refine (HTO.out _).mono ?_; rintro e W4 ⟨rfl, hb4⟩; have HS4 := Lib.hid (HS2.out.next hb4); have kb := ins_box hb4; have i0 := cell_of_block (i := 0) kb rfl; have i1 := cell_of_block (i := 1) kb rfl; clear hb4 kb; obtain ⟨g16, g17, g18, g23, k17, k18, k23⟩ := HS4.out.cells; have HS5 := HS4; clear HS2 HS1 HTO) | (refine wpList_load_row rfl 29 _ rfl w.heap.size rfl 29 (mC ({ m with st := m.st + 1 }) ba bc (.slice s0 s1 s2) ta tc) (0, 0) _ HS5.out.b1 Tryd.underlying29 rfl (mSize _ _ _ _ _ _) ?_) | (go_at_call 23; refine (HF2.out _ HS5.out.bel).mono ?_; rintro e W6 ⟨rfl, hb6⟩; have HS6 := Lib.hid (HS5.out.next hb6); clear hb6; have hlt6 := HS6.out.lt; have HS7 := Lib.hid (HS6.out.next (oalloc W6 (.cells #[.int .i64 27, .int .i64 j1, .int .i64 j2, .int .i64 j3] 45))); obtain ⟨m16, m17, m18, m23, n17, n18, n23⟩ := HS6.out.cells; clear HS5 HF2) | (go_at_call 24; refine (HLJ.out _).mono ?_; rintro e w' ⟨rfl, rfl⟩) | (go_at_call 22; refine (HNO.out _ _).mono ?_; rintro e W9 ⟨rfl, hb9⟩; have HS9 := Lib.hid (HS7.out.next hb9); clear hb9) | (refine wpList_store_row rfl 29 _ _ rfl (w.heap.size + 1) zC rfl rfl 29 zC HS9.out.b2 zSize rfl zAll ?_) | fail)
  exact bodyPost_ret (v := .tuple #[.agg zC, .bool false, .int .i64 8]) (res_s Tryd.results8 rfl rfl rfl (setRow_heap _ _ _ _ _ _ HS9.out.b2) zSize) rfl ⟨rfl, below_setRow HS9.out.bel (by omega) _⟩

set_option maxRecDepth 100000 in
set_option maxHeartbeats 8000000 in
theorem step_d2e (hDec : DecOk) (m : Ma) (ba : Option Addr) (bc : Nat) (s0 : Option Addr) (s1 s2 : Nat) (ta : Option Addr) (tc : Nat) (w : World) (hM : MOk m) (hp0 : -2147483648 ≤ m.pc) (hp1 : m.pc ≤ 4294967296) (hs0 : 0 ≤ m.st) (hs1 : m.st ≤ 1000000000) (hR : BRd w ba m.by') (hTr : TrapOk) (hT : TRd w ta m.told) (he : fetchE m m.pc = 0) (h0 : fV m m.pc 0 = 2) (hpc : 0 ≤ m.pc) (hj : fetchE ({ m with st := m.st + 1 }) (m.pc + 2) = 0) (hl : leadsB (fV ({ m with st := m.st + 1 }) (m.pc + 2) 0) = false) (h27 : fV ({ m with st := m.st + 1 }) (m.pc + 2) 0 ≠ 27) (hop : fV ({ m with st := m.st + 1 }) (m.pc + 2) 0 = 1 ∨ (3 ≤ fV ({ m with st := m.st + 1 }) (m.pc + 2) 0 ∧ fV ({ m with st := m.st + 1 }) (m.pc + 2) 0 ≤ 16) ∨ (23 ≤ fV ({ m with st := m.st + 1 }) (m.pc + 2) 0 ∧ fV ({ m with st := m.st + 1 }) (m.pc + 2) 0 ≤ 27)) (hE : plainE ({ m with st := m.st + 1 }) (fV ({ m with st := m.st + 1 }) (m.pc + 2) 0) (fV ({ m with st := m.st + 1 }) (m.pc + 2) 1) (fV ({ m with st := m.st + 1 }) (m.pc + 2) 2) (fV ({ m with st := m.st + 1 }) (m.pc + 2) 3) (m.pc + 2) ≠ 0) :
    Calls Tryd.prog 8 #[.agg (mC m ba bc (.slice s0 s1 s2) ta tc)] w fun e w' => e = .returned (.tuple #[.agg zC, .bool false, .int .i64 (plainE ({ m with st := m.st + 1 }) (fV ({ m with st := m.st + 1 }) (m.pc + 2) 0) (fV ({ m with st := m.st + 1 }) (m.pc + 2) 1) (fV ({ m with st := m.st + 1 }) (m.pc + 2) 2) (fV ({ m with st := m.st + 1 }) (m.pc + 2) 3) (m.pc + 2))]) ∧ Below w.heap.size w w' := by
  have HS : Hid (SB w m ba bc (.slice s0 s1 s2) ta tc ((w.alloc (.cells (mC m ba bc (.slice s0 s1 s2) ta tc) 29)).alloc (.cells #[.int .i64 0, .int .i64 0, .int .i64 0, .int .i64 0, .int .i64 0, .int .i64 0, .int .i64 0, .int .i64 0, .int .i64 0, .int .i64 0, .int .i64 0, .int .i64 0, .int .i64 0, .int .i64 0, .int .i64 0, .int .i64 0, .bool false, .int .i64 0, .int .i64 0, .int .i64 0, .slice none 0 0, .slice none 0 0, .slice none 0 0, .int .i64 0] 29))) := SB.start w m ba bc (.slice s0 s1 s2) ta tc _ rfl
  have HF := Lib.hid (fetch_any hDec m ba bc (.slice s0 s1 s2) ta tc m.pc ((w.alloc (.cells (mC m ba bc (.slice s0 s1 s2) ta tc) 29)).alloc (.cells #[.int .i64 0, .int .i64 0, .int .i64 0, .int .i64 0, .int .i64 0, .int .i64 0, .int .i64 0, .int .i64 0, .int .i64 0, .int .i64 0, .int .i64 0, .int .i64 0, .int .i64 0, .int .i64 0, .int .i64 0, .int .i64 0, .bool false, .int .i64 0, .int .i64 0, .int .i64 0, .slice none 0 0, .slice none 0 0, .slice none 0 0, .int .i64 0] 29)) (hR.next HS.out.bel) hM.b0 hM.b1 (by have := hM.bl; omega) (by omega) (by omega))
  have HNO := Lib.hid no_any
  have HLE := Lib.hid leads_any
  rw [he] at HF
  obtain ⟨c16, c17, c18, c23, f17, f18, f23⟩ := HS.out.cells
  rw [h0] at HF
  obtain ⟨b1, b2, b3, b4, b5, b6⟩ := fV_bd m m.pc
  have HTO : Hid (∀ W, Calls Tryd.prog 26 #[.agg #[.int .i64 2, .int .i64 (fV m m.pc 1), .int .i64 (fV m m.pc 2), .int .i64 (fV m m.pc 3)], .int .i64 m.pc] W fun e w' => e = .returned (.tuple #[.int .i64 (toI 2 (fV m m.pc 3) m.pc), .bool (toB 2)]) ∧ Below W.heap.size W w') := fun W => rto_any 2 _ _ _ m.pc W hpc (by omega) b5 b6
  have HLD : Hid (∀ W, Calls Tryd.prog 24 #[.int .i64 2] W fun e w' => e = .returned (.bool true) ∧ W = w') := fun W => HLE.out 2 W
  have HF2 : Hid (∀ W, Below w.heap.size w W → Calls Tryd.prog 23 #[.agg (mC ({ m with st := m.st + 1 }) ba bc (.slice s0 s1 s2) ta tc), .int .i64 (m.pc + 2)] W fun e w' => e = .returned (.tuple #[.agg #[.int .i64 (fV ({ m with st := m.st + 1 }) (m.pc + 2) 0), .int .i64 (fV ({ m with st := m.st + 1 }) (m.pc + 2) 1), .int .i64 (fV ({ m with st := m.st + 1 }) (m.pc + 2) 2), .int .i64 (fV ({ m with st := m.st + 1 }) (m.pc + 2) 3)], .int .i64 (fetchE ({ m with st := m.st + 1 }) (m.pc + 2))]) ∧ Below W.heap.size W w') := fun W hb => fetch_any hDec ({ m with st := m.st + 1 }) ba bc (.slice s0 s1 s2) ta tc (m.pc + 2) W (hR.next hb) hM.b0 hM.b1 (Nat.le_trans hM.bl (by decide)) (by omega) (by omega)
  rw [hj] at HF2
  have HLJ : Hid (∀ W, Calls Tryd.prog 24 #[.int .i64 (fV ({ m with st := m.st + 1 }) (m.pc + 2) 0)] W fun e w' => e = .returned (.bool false) ∧ W = w') := fun W => by
    have := HLE.out (fV ({ m with st := m.st + 1 }) (m.pc + 2) 0) W
    rw [hl] at this
    exact this
  obtain ⟨j1, j2, j3, j4, j5, j6⟩ := fV_bd ({ m with st := m.st + 1 }) (m.pc + 2)
  have HPL : Hid (∀ W, Below w.heap.size w W → Calls Tryd.prog 25 #[.agg (mC ({ m with st := m.st + 1 }) ba bc (.slice s0 s1 s2) ta tc), .agg #[.int .i64 (fV ({ m with st := m.st + 1 }) (m.pc + 2) 0), .int .i64 (fV ({ m with st := m.st + 1 }) (m.pc + 2) 1), .int .i64 (fV ({ m with st := m.st + 1 }) (m.pc + 2) 2), .int .i64 (fV ({ m with st := m.st + 1 }) (m.pc + 2) 3)], .int .i64 (m.pc + 2)] W (PlPost W ({ m with st := m.st + 1 }) ba ta s0 s1 s2 (plainM ({ m with st := m.st + 1 }) (fV ({ m with st := m.st + 1 }) (m.pc + 2) 0) (fV ({ m with st := m.st + 1 }) (m.pc + 2) 1) (fV ({ m with st := m.st + 1 }) (m.pc + 2) 2) (fV ({ m with st := m.st + 1 }) (m.pc + 2) 3) (m.pc + 2)) (plainE ({ m with st := m.st + 1 }) (fV ({ m with st := m.st + 1 }) (m.pc + 2) 0) (fV ({ m with st := m.st + 1 }) (m.pc + 2) 1) (fV ({ m with st := m.st + 1 }) (m.pc + 2) 2) (fV ({ m with st := m.st + 1 }) (m.pc + 2) 3) (m.pc + 2)))) := fun W hb => plain_any hTr ({ m with st := m.st + 1 }) ba bc s0 s1 s2 ta tc _ _ _ _ (m.pc + 2) W j1 j2 j3 j4 j5 j6 (by omega) (by omega) ⟨hM.b0, hM.b1, hM.bl, hM.tl⟩ (hR.next hb) (hT.next hb) hop
  have h27b : (fV ({ m with st := m.st + 1 }) (m.pc + 2) 0 == 27) = false := by simpa using h27
  obtain ⟨MM, hMM⟩ : ∃ x, x = plainM ({ m with st := m.st + 1 }) (fV ({ m with st := m.st + 1 }) (m.pc + 2) 0) (fV ({ m with st := m.st + 1 }) (m.pc + 2) 1) (fV ({ m with st := m.st + 1 }) (m.pc + 2) 2) (fV ({ m with st := m.st + 1 }) (m.pc + 2) 3) (m.pc + 2) := ⟨_, rfl⟩
  obtain ⟨EE, hEE⟩ : ∃ x, x = plainE ({ m with st := m.st + 1 }) (fV ({ m with st := m.st + 1 }) (m.pc + 2) 0) (fV ({ m with st := m.st + 1 }) (m.pc + 2) 1) (fV ({ m with st := m.st + 1 }) (m.pc + 2) 2) (fV ({ m with st := m.st + 1 }) (m.pc + 2) 3) (m.pc + 2) := ⟨_, rfl⟩
  rw [← hMM, ← hEE] at HPL
  rw [← hEE] at hE
  rw [← hEE]
  have hEb : (EE != 0) = true := by simpa using hE
  have HRW := Lib.hid hR
  have HTW := Lib.hid hT
  clear hMM hEE hE hop h27 j1 j2 j3 j4 j5 j6 hT hTr hj hl
  clear hDec hR hM he h0 HLE b3 b4 b5 b6 b1 b2
  generalize toI 2 (fV m m.pc 3) m.pc = gl at HTO
  generalize fV ({ m with st := m.st + 1 }) (m.pc + 2) 0 = j0 at *
  generalize fV ({ m with st := m.st + 1 }) (m.pc + 2) 1 = j1 at *
  generalize fV ({ m with st := m.st + 1 }) (m.pc + 2) 2 = j2 at *
  generalize fV ({ m with st := m.st + 1 }) (m.pc + 2) 3 = j3 at *
  generalize fV m m.pc 1 = d1 at *
  generalize fV m m.pc 2 = d2 at *
  generalize fV m m.pc 3 = d3 at *
  go_enter Tryd.func8, Tryd.ntmps8
  go_wp2_with (first | (refine wpList_load_row rfl 29 _ rfl w.heap.size rfl 29 (mC (m) ba bc (.slice s0 s1 s2) ta tc) (0, 0) _ HS.out.b1 Tryd.underlying29 rfl (mSize _ _ _ _ _ _) ?_) | (go_at_call 23; refine HF.out.mono ?_; rintro e W1 ⟨rfl, hb1⟩; have HS1 := Lib.hid (HS.out.next hb1); clear hb1 c16 c17 c18 c23 f17 f18 f23; obtain ⟨c16, c17, c18, c23, f17, f18, f23⟩ := HS1.out.cells; have hlt1 := HS1.out.lt; have HS2 := Lib.hid ((HS1.out.stp (m.st + 1)).next (oalloc _ (.cells #[.int .i64 2, .int .i64 d1, .int .i64 d2, .int .i64 d3] 45))); clear HS HF) | (go_at_call 24; refine (HLD.out _).mono ?_; rintro e w' ⟨rfl, rfl⟩; clear HLD) | (go_at_call 26; refine (HTO.out _).mono ?_; rintro e W4 ⟨rfl, hb4⟩; have HS4 := Lib.hid (HS2.out.next hb4); have kb := ins_box hb4; have i0 := cell_of_block (i := 0) kb rfl; have i1 := cell_of_block (i := 1) kb rfl; clear hb4 kb; obtain ⟨g16, g17, g18, g23, k17, k18, k23⟩ := HS4.out.cells; have HS5 := HS4; clear HS2 HS1 HTO) | (refine wpList_load_row rfl 29 _ rfl w.heap.size rfl 29 (mC ({ m with st := m.st + 1 }) ba bc (.slice s0 s1 s2) ta tc) (0, 0) _ HS5.out.b1 Tryd.underlying29 rfl (mSize _ _ _ _ _ _) ?_) | (go_at_call 23; refine (HF2.out _ HS5.out.bel).mono ?_; rintro e W6 ⟨rfl, hb6⟩; have HS6 := Lib.hid (HS5.out.next hb6); clear hb6; have hlt6 := HS6.out.lt; have HS7 := Lib.hid (HS6.out.next (oalloc W6 (.cells #[.int .i64 j0, .int .i64 j1, .int .i64 j2, .int .i64 j3] 45))); obtain ⟨m16, m17, m18, m23, n17, n18, n23⟩ := HS6.out.cells; clear HS5 HF2) | (go_at_call 24; refine (HLJ.out _).mono ?_; rintro e w' ⟨rfl, rfl⟩) | (refine wpList_load_row rfl 29 _ rfl w.heap.size rfl 29 (mC ({ m with st := m.st + 1 }) ba bc (.slice s0 s1 s2) ta tc) (0, 0) _ HS7.out.b1 Tryd.underlying29 rfl (mSize _ _ _ _ _ _) ?_) | (go_at_call 25; refine (HPL.out _ HS7.out.bel).mono ?_; rintro e W8 ⟨ba', bc', ta', tc', rfl, hb8, hr8, ht8, hab, hat⟩; have HS8 := Lib.hid (HS7.out.next hb8); have HR4 := Lib.hid hr8; have HT4 := Lib.hid ht8; have HAB := Lib.hid hab; have HAT := Lib.hid hat; have HK4 := Lib.hid (blk_new W8 #[.int .i64 0, .int .i64 0, .int .i64 0, .int .i64 0, .int .i64 0, .int .i64 0, .int .i64 0, .int .i64 0, .int .i64 0, .int .i64 0, .int .i64 0, .int .i64 0, .int .i64 0, .int .i64 0, .int .i64 0, .int .i64 0, .bool false, .int .i64 0, .int .i64 0, .int .i64 0, .slice none 0 0, .slice none 0 0, .slice none 0 0, .int .i64 0] 29); have hlt8 := HS8.out.lt2; have HS10 := Lib.hid ((HS8.out.next (oalloc W8 (.cells #[.int .i64 0, .int .i64 0, .int .i64 0, .int .i64 0, .int .i64 0, .int .i64 0, .int .i64 0, .int .i64 0, .int .i64 0, .int .i64 0, .int .i64 0, .int .i64 0, .int .i64 0, .int .i64 0, .int .i64 0, .int .i64 0, .bool false, .int .i64 0, .int .i64 0, .int .i64 0, .slice none 0 0, .slice none 0 0, .slice none 0 0, .int .i64 0] 29))).row W8.heap.size hlt8 (mC MM ba' bc' (.slice s0 s1 s2) ta' tc')); have k5 := setRow_heap _ _ _ (mC MM ba' bc' (.slice s0 s1 s2) ta' tc') _ _ HK4.out; have HK5 := Lib.hid k5; have x17 : ((W8.alloc (.cells #[.int .i64 0, .int .i64 0, .int .i64 0, .int .i64 0, .int .i64 0, .int .i64 0, .int .i64 0, .int .i64 0, .int .i64 0, .int .i64 0, .int .i64 0, .int .i64 0, .int .i64 0, .int .i64 0, .int .i64 0, .int .i64 0, .bool false, .int .i64 0, .int .i64 0, .int .i64 0, .slice none 0 0, .slice none 0 0, .slice none 0 0, .int .i64 0] 29)).setRow W8.heap.size (mC MM ba' bc' (.slice s0 s1 s2) ta' tc')).cell? ⟨W8.heap.size, 17, none⟩ = some (.int .i64 MM.pc) := cell_of_block (i := 17) k5 rfl; have x17f := blk_froz (i := 17) k5; clear hb8 hr8 ht8 k5 hab hat; have HK6 := Lib.hid (mb_pc HK5.out m.pr); have HS11 := Lib.hid (HS10.out.other W8.heap.size 17 hlt8 (.int .i64 m.pr))) | (refine wpList_store_row rfl 29 _ _ rfl W8.heap.size (mC (MM) ba' bc' (.slice s0 s1 s2) ta' tc') rfl rfl 29 #[.int .i64 0, .int .i64 0, .int .i64 0, .int .i64 0, .int .i64 0, .int .i64 0, .int .i64 0, .int .i64 0, .int .i64 0, .int .i64 0, .int .i64 0, .int .i64 0, .int .i64 0, .int .i64 0, .int .i64 0, .int .i64 0, .bool false, .int .i64 0, .int .i64 0, .int .i64 0, .slice none 0 0, .slice none 0 0, .slice none 0 0, .int .i64 0] HK4.out (mSize _ _ _ _ _ _) rfl (mAll _ _ _ _ _ _ _ _) ?_) | (go_at_call 22; refine (HNO.out _ _).mono ?_; rintro e W9 ⟨rfl, hb9⟩; have HS9 := Lib.hid (HS10.out.next hb9); clear hb9) | (refine wpList_store_row rfl 29 _ _ rfl (w.heap.size + 1) zC rfl rfl 29 zC HS9.out.b2 zSize rfl zAll ?_) | fail)
  exact bodyPost_ret (v := .tuple #[.agg zC, .bool false, .int .i64 EE]) (res_s Tryd.results8 rfl rfl rfl (setRow_heap _ _ _ _ _ _ HS9.out.b2) zSize) rfl ⟨rfl, below_setRow HS9.out.bel (by omega) _⟩

set_option maxRecDepth 100000 in
set_option maxHeartbeats 8000000 in
theorem step_d2y (hDec : DecOk) (m : Ma) (ba : Option Addr) (bc : Nat) (s0 : Option Addr) (s1 s2 : Nat) (ta : Option Addr) (tc : Nat) (w : World) (hM : MOk m) (hp0 : -2147483648 ≤ m.pc) (hp1 : m.pc ≤ 4294967296) (hs0 : 0 ≤ m.st) (hs1 : m.st ≤ 1000000000) (hR : BRd w ba m.by') (hTr : TrapOk) (hT : TRd w ta m.told) (he : fetchE m m.pc = 0) (h0 : fV m m.pc 0 = 2) (hpc : 0 ≤ m.pc) (hj : fetchE ({ m with st := m.st + 1 }) (m.pc + 2) = 0) (hl : leadsB (fV ({ m with st := m.st + 1 }) (m.pc + 2) 0) = false) (h27 : fV ({ m with st := m.st + 1 }) (m.pc + 2) 0 ≠ 27) (hop : fV ({ m with st := m.st + 1 }) (m.pc + 2) 0 = 1 ∨ (3 ≤ fV ({ m with st := m.st + 1 }) (m.pc + 2) 0 ∧ fV ({ m with st := m.st + 1 }) (m.pc + 2) 0 ≤ 16) ∨ (23 ≤ fV ({ m with st := m.st + 1 }) (m.pc + 2) 0 ∧ fV ({ m with st := m.st + 1 }) (m.pc + 2) 0 ≤ 27)) (hE : plainE ({ m with st := m.st + 1 }) (fV ({ m with st := m.st + 1 }) (m.pc + 2) 0) (fV ({ m with st := m.st + 1 }) (m.pc + 2) 1) (fV ({ m with st := m.st + 1 }) (m.pc + 2) 2) (fV ({ m with st := m.st + 1 }) (m.pc + 2) 3) (m.pc + 2) = 0) :
    Calls Tryd.prog 8 #[.agg (mC m ba bc (.slice s0 s1 s2) ta tc)] w fun e w' => ∃ ba' bc' ta' tc', e = .returned (.tuple #[.agg (mC { plainM ({ m with st := m.st + 1 }) (fV ({ m with st := m.st + 1 }) (m.pc + 2) 0) (fV ({ m with st := m.st + 1 }) (m.pc + 2) 1) (fV ({ m with st := m.st + 1 }) (m.pc + 2) 2) (fV ({ m with st := m.st + 1 }) (m.pc + 2) 3) (m.pc + 2) with pc := m.pr } ba' bc' (.slice s0 s1 s2) ta' tc'), .bool false, .int .i64 0]) ∧ Below w.heap.size w w' ∧ BRd w' ba' (plainM ({ m with st := m.st + 1 }) (fV ({ m with st := m.st + 1 }) (m.pc + 2) 0) (fV ({ m with st := m.st + 1 }) (m.pc + 2) 1) (fV ({ m with st := m.st + 1 }) (m.pc + 2) 2) (fV ({ m with st := m.st + 1 }) (m.pc + 2) 3) (m.pc + 2)).by' ∧ TRd w' ta' (plainM ({ m with st := m.st + 1 }) (fV ({ m with st := m.st + 1 }) (m.pc + 2) 0) (fV ({ m with st := m.st + 1 }) (m.pc + 2) 1) (fV ({ m with st := m.st + 1 }) (m.pc + 2) 2) (fV ({ m with st := m.st + 1 }) (m.pc + 2) 3) (m.pc + 2)).told ∧ NearA w ba ba' m.by' (plainM ({ m with st := m.st + 1 }) (fV ({ m with st := m.st + 1 }) (m.pc + 2) 0) (fV ({ m with st := m.st + 1 }) (m.pc + 2) 1) (fV ({ m with st := m.st + 1 }) (m.pc + 2) 2) (fV ({ m with st := m.st + 1 }) (m.pc + 2) 3) (m.pc + 2)).by' ∧ NearA w ta ta' m.told (plainM ({ m with st := m.st + 1 }) (fV ({ m with st := m.st + 1 }) (m.pc + 2) 0) (fV ({ m with st := m.st + 1 }) (m.pc + 2) 1) (fV ({ m with st := m.st + 1 }) (m.pc + 2) 2) (fV ({ m with st := m.st + 1 }) (m.pc + 2) 3) (m.pc + 2)).told := by
  have HS : Hid (SB w m ba bc (.slice s0 s1 s2) ta tc ((w.alloc (.cells (mC m ba bc (.slice s0 s1 s2) ta tc) 29)).alloc (.cells #[.int .i64 0, .int .i64 0, .int .i64 0, .int .i64 0, .int .i64 0, .int .i64 0, .int .i64 0, .int .i64 0, .int .i64 0, .int .i64 0, .int .i64 0, .int .i64 0, .int .i64 0, .int .i64 0, .int .i64 0, .int .i64 0, .bool false, .int .i64 0, .int .i64 0, .int .i64 0, .slice none 0 0, .slice none 0 0, .slice none 0 0, .int .i64 0] 29))) := SB.start w m ba bc (.slice s0 s1 s2) ta tc _ rfl
  have HF := Lib.hid (fetch_any hDec m ba bc (.slice s0 s1 s2) ta tc m.pc ((w.alloc (.cells (mC m ba bc (.slice s0 s1 s2) ta tc) 29)).alloc (.cells #[.int .i64 0, .int .i64 0, .int .i64 0, .int .i64 0, .int .i64 0, .int .i64 0, .int .i64 0, .int .i64 0, .int .i64 0, .int .i64 0, .int .i64 0, .int .i64 0, .int .i64 0, .int .i64 0, .int .i64 0, .int .i64 0, .bool false, .int .i64 0, .int .i64 0, .int .i64 0, .slice none 0 0, .slice none 0 0, .slice none 0 0, .int .i64 0] 29)) (hR.next HS.out.bel) hM.b0 hM.b1 (by have := hM.bl; omega) (by omega) (by omega))
  have HNO := Lib.hid no_any
  have HLE := Lib.hid leads_any
  rw [he] at HF
  obtain ⟨c16, c17, c18, c23, f17, f18, f23⟩ := HS.out.cells
  rw [h0] at HF
  obtain ⟨b1, b2, b3, b4, b5, b6⟩ := fV_bd m m.pc
  have HTO : Hid (∀ W, Calls Tryd.prog 26 #[.agg #[.int .i64 2, .int .i64 (fV m m.pc 1), .int .i64 (fV m m.pc 2), .int .i64 (fV m m.pc 3)], .int .i64 m.pc] W fun e w' => e = .returned (.tuple #[.int .i64 (toI 2 (fV m m.pc 3) m.pc), .bool (toB 2)]) ∧ Below W.heap.size W w') := fun W => rto_any 2 _ _ _ m.pc W hpc (by omega) b5 b6
  have HLD : Hid (∀ W, Calls Tryd.prog 24 #[.int .i64 2] W fun e w' => e = .returned (.bool true) ∧ W = w') := fun W => HLE.out 2 W
  have HF2 : Hid (∀ W, Below w.heap.size w W → Calls Tryd.prog 23 #[.agg (mC ({ m with st := m.st + 1 }) ba bc (.slice s0 s1 s2) ta tc), .int .i64 (m.pc + 2)] W fun e w' => e = .returned (.tuple #[.agg #[.int .i64 (fV ({ m with st := m.st + 1 }) (m.pc + 2) 0), .int .i64 (fV ({ m with st := m.st + 1 }) (m.pc + 2) 1), .int .i64 (fV ({ m with st := m.st + 1 }) (m.pc + 2) 2), .int .i64 (fV ({ m with st := m.st + 1 }) (m.pc + 2) 3)], .int .i64 (fetchE ({ m with st := m.st + 1 }) (m.pc + 2))]) ∧ Below W.heap.size W w') := fun W hb => fetch_any hDec ({ m with st := m.st + 1 }) ba bc (.slice s0 s1 s2) ta tc (m.pc + 2) W (hR.next hb) hM.b0 hM.b1 (Nat.le_trans hM.bl (by decide)) (by omega) (by omega)
  rw [hj] at HF2
  have HLJ : Hid (∀ W, Calls Tryd.prog 24 #[.int .i64 (fV ({ m with st := m.st + 1 }) (m.pc + 2) 0)] W fun e w' => e = .returned (.bool false) ∧ W = w') := fun W => by
    have := HLE.out (fV ({ m with st := m.st + 1 }) (m.pc + 2) 0) W
    rw [hl] at this
    exact this
  obtain ⟨j1, j2, j3, j4, j5, j6⟩ := fV_bd ({ m with st := m.st + 1 }) (m.pc + 2)
  have HPL : Hid (∀ W, Below w.heap.size w W → Calls Tryd.prog 25 #[.agg (mC ({ m with st := m.st + 1 }) ba bc (.slice s0 s1 s2) ta tc), .agg #[.int .i64 (fV ({ m with st := m.st + 1 }) (m.pc + 2) 0), .int .i64 (fV ({ m with st := m.st + 1 }) (m.pc + 2) 1), .int .i64 (fV ({ m with st := m.st + 1 }) (m.pc + 2) 2), .int .i64 (fV ({ m with st := m.st + 1 }) (m.pc + 2) 3)], .int .i64 (m.pc + 2)] W (PlPost W ({ m with st := m.st + 1 }) ba ta s0 s1 s2 (plainM ({ m with st := m.st + 1 }) (fV ({ m with st := m.st + 1 }) (m.pc + 2) 0) (fV ({ m with st := m.st + 1 }) (m.pc + 2) 1) (fV ({ m with st := m.st + 1 }) (m.pc + 2) 2) (fV ({ m with st := m.st + 1 }) (m.pc + 2) 3) (m.pc + 2)) (plainE ({ m with st := m.st + 1 }) (fV ({ m with st := m.st + 1 }) (m.pc + 2) 0) (fV ({ m with st := m.st + 1 }) (m.pc + 2) 1) (fV ({ m with st := m.st + 1 }) (m.pc + 2) 2) (fV ({ m with st := m.st + 1 }) (m.pc + 2) 3) (m.pc + 2)))) := fun W hb => plain_any hTr ({ m with st := m.st + 1 }) ba bc s0 s1 s2 ta tc _ _ _ _ (m.pc + 2) W j1 j2 j3 j4 j5 j6 (by omega) (by omega) ⟨hM.b0, hM.b1, hM.bl, hM.tl⟩ (hR.next hb) (hT.next hb) hop
  have h27b : (fV ({ m with st := m.st + 1 }) (m.pc + 2) 0 == 27) = false := by simpa using h27
  obtain ⟨MM, hMM⟩ : ∃ x, x = plainM ({ m with st := m.st + 1 }) (fV ({ m with st := m.st + 1 }) (m.pc + 2) 0) (fV ({ m with st := m.st + 1 }) (m.pc + 2) 1) (fV ({ m with st := m.st + 1 }) (m.pc + 2) 2) (fV ({ m with st := m.st + 1 }) (m.pc + 2) 3) (m.pc + 2) := ⟨_, rfl⟩
  obtain ⟨EE, hEE⟩ : ∃ x, x = plainE ({ m with st := m.st + 1 }) (fV ({ m with st := m.st + 1 }) (m.pc + 2) 0) (fV ({ m with st := m.st + 1 }) (m.pc + 2) 1) (fV ({ m with st := m.st + 1 }) (m.pc + 2) 2) (fV ({ m with st := m.st + 1 }) (m.pc + 2) 3) (m.pc + 2) := ⟨_, rfl⟩
  rw [← hMM, ← hEE] at HPL
  rw [← hEE] at hE
  rw [← hMM]
  rw [hE] at HPL
  have HRW := Lib.hid hR
  have HTW := Lib.hid hT
  clear hMM hEE hE hop h27 j1 j2 j3 j4 j5 j6 hT hTr hj hl
  clear hDec hR hM he h0 HLE b3 b4 b5 b6 b1 b2
  generalize toI 2 (fV m m.pc 3) m.pc = gl at HTO
  generalize fV ({ m with st := m.st + 1 }) (m.pc + 2) 0 = j0 at *
  generalize fV ({ m with st := m.st + 1 }) (m.pc + 2) 1 = j1 at *
  generalize fV ({ m with st := m.st + 1 }) (m.pc + 2) 2 = j2 at *
  generalize fV ({ m with st := m.st + 1 }) (m.pc + 2) 3 = j3 at *
  generalize fV m m.pc 1 = d1 at *
  generalize fV m m.pc 2 = d2 at *
  generalize fV m m.pc 3 = d3 at *
  go_enter Tryd.func8, Tryd.ntmps8
  go_wp2_with (first | (refine wpList_load_row rfl 29 _ rfl w.heap.size rfl 29 (mC (m) ba bc (.slice s0 s1 s2) ta tc) (0, 0) _ HS.out.b1 Tryd.underlying29 rfl (mSize _ _ _ _ _ _) ?_) | (go_at_call 23; refine HF.out.mono ?_; rintro e W1 ⟨rfl, hb1⟩; have HS1 := Lib.hid (HS.out.next hb1); clear hb1 c16 c17 c18 c23 f17 f18 f23; obtain ⟨c16, c17, c18, c23, f17, f18, f23⟩ := HS1.out.cells; have hlt1 := HS1.out.lt; have HS2 := Lib.hid ((HS1.out.stp (m.st + 1)).next (oalloc _ (.cells #[.int .i64 2, .int .i64 d1, .int .i64 d2, .int .i64 d3] 45))); clear HS HF) | (go_at_call 24; refine (HLD.out _).mono ?_; rintro e w' ⟨rfl, rfl⟩; clear HLD) | (go_at_call 26; refine (HTO.out _).mono ?_; rintro e W4 ⟨rfl, hb4⟩; have HS4 := Lib.hid (HS2.out.next hb4); have kb := ins_box hb4; have i0 := cell_of_block (i := 0) kb rfl; have i1 := cell_of_block (i := 1) kb rfl; clear hb4 kb; obtain ⟨g16, g17, g18, g23, k17, k18, k23⟩ := HS4.out.cells; have HS5 := HS4; clear HS2 HS1 HTO) | (refine wpList_load_row rfl 29 _ rfl w.heap.size rfl 29 (mC ({ m with st := m.st + 1 }) ba bc (.slice s0 s1 s2) ta tc) (0, 0) _ HS5.out.b1 Tryd.underlying29 rfl (mSize _ _ _ _ _ _) ?_) | (go_at_call 23; refine (HF2.out _ HS5.out.bel).mono ?_; rintro e W6 ⟨rfl, hb6⟩; have HS6 := Lib.hid (HS5.out.next hb6); clear hb6; have hlt6 := HS6.out.lt; have HS7 := Lib.hid (HS6.out.next (oalloc W6 (.cells #[.int .i64 j0, .int .i64 j1, .int .i64 j2, .int .i64 j3] 45))); obtain ⟨m16, m17, m18, m23, n17, n18, n23⟩ := HS6.out.cells; clear HS5 HF2) | (go_at_call 24; refine (HLJ.out _).mono ?_; rintro e w' ⟨rfl, rfl⟩) | (refine wpList_load_row rfl 29 _ rfl w.heap.size rfl 29 (mC ({ m with st := m.st + 1 }) ba bc (.slice s0 s1 s2) ta tc) (0, 0) _ HS7.out.b1 Tryd.underlying29 rfl (mSize _ _ _ _ _ _) ?_) | (go_at_call 25; refine (HPL.out _ HS7.out.bel).mono ?_; rintro e W8 ⟨ba', bc', ta', tc', rfl, hb8, hr8, ht8, hab, hat⟩; have HS8 := Lib.hid (HS7.out.next hb8); have HR4 := Lib.hid hr8; have HT4 := Lib.hid ht8; have HAB := Lib.hid hab; have HAT := Lib.hid hat; have HK4 := Lib.hid (blk_new W8 #[.int .i64 0, .int .i64 0, .int .i64 0, .int .i64 0, .int .i64 0, .int .i64 0, .int .i64 0, .int .i64 0, .int .i64 0, .int .i64 0, .int .i64 0, .int .i64 0, .int .i64 0, .int .i64 0, .int .i64 0, .int .i64 0, .bool false, .int .i64 0, .int .i64 0, .int .i64 0, .slice none 0 0, .slice none 0 0, .slice none 0 0, .int .i64 0] 29); have hlt8 := HS8.out.lt2; have HS10 := Lib.hid ((HS8.out.next (oalloc W8 (.cells #[.int .i64 0, .int .i64 0, .int .i64 0, .int .i64 0, .int .i64 0, .int .i64 0, .int .i64 0, .int .i64 0, .int .i64 0, .int .i64 0, .int .i64 0, .int .i64 0, .int .i64 0, .int .i64 0, .int .i64 0, .int .i64 0, .bool false, .int .i64 0, .int .i64 0, .int .i64 0, .slice none 0 0, .slice none 0 0, .slice none 0 0, .int .i64 0] 29))).row W8.heap.size hlt8 (mC MM ba' bc' (.slice s0 s1 s2) ta' tc')); have k5 := setRow_heap _ _ _ (mC MM ba' bc' (.slice s0 s1 s2) ta' tc') _ _ HK4.out; have HK5 := Lib.hid k5; have x17 : ((W8.alloc (.cells #[.int .i64 0, .int .i64 0, .int .i64 0, .int .i64 0, .int .i64 0, .int .i64 0, .int .i64 0, .int .i64 0, .int .i64 0, .int .i64 0, .int .i64 0, .int .i64 0, .int .i64 0, .int .i64 0, .int .i64 0, .int .i64 0, .bool false, .int .i64 0, .int .i64 0, .int .i64 0, .slice none 0 0, .slice none 0 0, .slice none 0 0, .int .i64 0] 29)).setRow W8.heap.size (mC MM ba' bc' (.slice s0 s1 s2) ta' tc')).cell? ⟨W8.heap.size, 17, none⟩ = some (.int .i64 MM.pc) := cell_of_block (i := 17) k5 rfl; have x17f := blk_froz (i := 17) k5; clear hb8 hr8 ht8 k5 hab hat; have HK6 := Lib.hid (mb_pc HK5.out m.pr); have HS11 := Lib.hid (HS10.out.other W8.heap.size 17 hlt8 (.int .i64 m.pr))) | (refine wpList_store_row rfl 29 _ _ rfl W8.heap.size (mC (MM) ba' bc' (.slice s0 s1 s2) ta' tc') rfl rfl 29 #[.int .i64 0, .int .i64 0, .int .i64 0, .int .i64 0, .int .i64 0, .int .i64 0, .int .i64 0, .int .i64 0, .int .i64 0, .int .i64 0, .int .i64 0, .int .i64 0, .int .i64 0, .int .i64 0, .int .i64 0, .int .i64 0, .bool false, .int .i64 0, .int .i64 0, .int .i64 0, .slice none 0 0, .slice none 0 0, .slice none 0 0, .int .i64 0] HK4.out (mSize _ _ _ _ _ _) rfl (mAll _ _ _ _ _ _ _ _) ?_) | (refine wpList_load_row rfl 29 _ rfl W8.heap.size rfl 29 (mC ({ MM with pc := m.pr }) ba' bc' (.slice s0 s1 s2) ta' tc') (0, 0) _ HK6.out Tryd.underlying29 rfl (mSize _ _ _ _ _ _) ?_) | (refine wpList_store_row rfl 29 _ _ rfl (w.heap.size + 1) (mC ({ MM with pc := m.pr }) ba' bc' (.slice s0 s1 s2) ta' tc') rfl rfl 29 zC HS11.out.b2 (mSize _ _ _ _ _ _) rfl (mAll _ _ _ _ _ _ _ _) ?_) | fail)
  refine bodyPost_ret (v := .tuple #[.agg (mC ({ MM with pc := m.pr }) ba' bc' (.slice s0 s1 s2) ta' tc'), .bool false, .int .i64 0]) (res_s Tryd.results8 rfl rfl rfl (setRow_heap _ _ _ _ _ _ HS11.out.b2) (mSize _ _ _ _ _ _)) rfl ⟨_, _, _, _, rfl, below_setRow HS11.out.bel (by omega) _, fun h0 => ?_, fun h0 => ?_, ?_, ?_⟩
  · obtain ⟨b, off, e, hl, hc⟩ := HR4.out h0
    have hne : b ≠ w.heap.size + 1 := by
      rcases HAB.out with ⟨h1, h2⟩ | ⟨g, h1, h2⟩
      · rw [h2] at h0
        obtain ⟨b', off', e', hl', _⟩ := HRW.out h0
        rw [h1, e'] at e
        simp at e
        omega
      · rw [h1] at e
        simp at e
        have := HS6.out.lt2
        simp at h2
        omega
    exact ⟨b, off, e, by simp; omega, fun i hi => (fin_cell hl hne).trans (hc i hi)⟩
  · obtain ⟨b, off, e, hl, hc⟩ := HT4.out h0
    have hne : b ≠ w.heap.size + 1 := by
      rcases HAT.out with ⟨h1, h2⟩ | ⟨g, h1, h2⟩
      · rw [h2] at h0
        obtain ⟨b', off', e', hl', _⟩ := HTW.out h0
        rw [h1, e'] at e
        simp at e
        omega
      · rw [h1] at e
        simp at e
        have := HS6.out.lt2
        simp at h2
        omega
    exact ⟨b, off, e, by simp; omega, fun i hi => (fin_cell hl hne).trans (hc i hi)⟩
  · rcases HAB.out with ⟨h1, h2⟩ | ⟨g, h1, h2⟩
    · exact Or.inl ⟨h1, h2⟩
    · refine Or.inr ⟨g, h1, ?_⟩
      have := HS6.out.lt2
      simp at h2
      omega
  · rcases HAT.out with ⟨h1, h2⟩ | ⟨g, h1, h2⟩
    · exact Or.inl ⟨h1, h2⟩
    · refine Or.inr ⟨g, h1, ?_⟩
      have := HS6.out.lt2
      simp at h2
      omega

end Go.Proofs.YtabepbaldadmgaaDoor
