/- The document's own Step: branches. -/
import Derived.Test.YtabepbaldadmgaaDoorPut33
namespace Go.Proofs.YtabepbaldadmgaaDoor
open Go.RowKit Isa

theorem ins_box {W1 W4 : World} {p : Addr} {v : Value} {c : Array Value} (hb : Below ((W1.setCell p v).alloc (.cells c 45)).heap.size ((W1.setCell p v).alloc (.cells c 45)) W4) : W4.heap[W1.heap.size]? = some (.cells c 45 (0, 0)) := by
  have h := blk_new (W1.setCell p v) c 45
  simp only [World.size_setCell] at h
  rw [hb.block _ (Array.getElem?_eq_some_iff.1 h).1]
  exact h

set_option maxRecDepth 100000 in
set_option maxHeartbeats 4000000 in
theorem step_b17y (hDec : DecOk) (m : Ma) (ba : Option Addr) (bc : Nat) (s0 : Option Addr) (s1 s2 : Nat) (ta : Option Addr) (tc : Nat) (w : World) (hM : MOk m) (hp0 : -2147483648 ≤ m.pc) (hp1 : m.pc ≤ 4294967296) (hs0 : 0 ≤ m.st) (hs1 : m.st ≤ 1000000000) (hR : BRd w ba m.by') (he : fetchE m m.pc = 0) (h0 : fV m m.pc 0 = 17) (ht : m.t = true) (hpc : 0 ≤ m.pc) :
    Calls Tryd.prog 8 #[.agg (mC m ba bc (.slice s0 s1 s2) ta tc)] w fun e w' => e = .returned (.tuple #[.agg (mC { m with st := m.st + 1, pc := toI 17 (fV m m.pc 3) m.pc } ba bc (.slice s0 s1 s2) ta tc), .bool false, .int .i64 0]) ∧ Below w.heap.size w w' := by
  have HS : Hid (SB w m ba bc (.slice s0 s1 s2) ta tc ((w.alloc (.cells (mC m ba bc (.slice s0 s1 s2) ta tc) 29)).alloc (.cells #[.int .i64 0, .int .i64 0, .int .i64 0, .int .i64 0, .int .i64 0, .int .i64 0, .int .i64 0, .int .i64 0, .int .i64 0, .int .i64 0, .int .i64 0, .int .i64 0, .int .i64 0, .int .i64 0, .int .i64 0, .int .i64 0, .bool false, .int .i64 0, .int .i64 0, .int .i64 0, .slice none 0 0, .slice none 0 0, .slice none 0 0, .int .i64 0] 29))) := SB.start w m ba bc (.slice s0 s1 s2) ta tc _ rfl
  have HF := Lib.hid (fetch_any hDec m ba bc (.slice s0 s1 s2) ta tc m.pc ((w.alloc (.cells (mC m ba bc (.slice s0 s1 s2) ta tc) 29)).alloc (.cells #[.int .i64 0, .int .i64 0, .int .i64 0, .int .i64 0, .int .i64 0, .int .i64 0, .int .i64 0, .int .i64 0, .int .i64 0, .int .i64 0, .int .i64 0, .int .i64 0, .int .i64 0, .int .i64 0, .int .i64 0, .int .i64 0, .bool false, .int .i64 0, .int .i64 0, .int .i64 0, .slice none 0 0, .slice none 0 0, .slice none 0 0, .int .i64 0] 29)) (hR.next HS.out.bel) hM.b0 hM.b1 (by have := hM.bl; omega) (by omega) (by omega))
  have HNO := Lib.hid no_any
  have HLE := Lib.hid leads_any
  rw [he] at HF
  obtain ⟨c16, c17, c18, c23, f17, f18, f23⟩ := HS.out.cells
  rw [h0] at HF
  obtain ⟨_, _, _, _, b5, b6⟩ := fV_bd m m.pc
  have HTO : Hid (∀ W, Calls Tryd.prog 26 #[.agg #[.int .i64 17, .int .i64 (fV m m.pc 1), .int .i64 (fV m m.pc 2), .int .i64 (fV m m.pc 3)], .int .i64 m.pc] W fun e w' => e = .returned (.tuple #[.int .i64 (toI 17 (fV m m.pc 3) m.pc), .bool (toB 17)]) ∧ Below W.heap.size W w') := fun W => rto_any 17 _ _ _ m.pc W hpc (by omega) b5 b6
  have HLD : Hid (∀ W, Calls Tryd.prog 24 #[.int .i64 17] W fun e w' => e = .returned (.bool true) ∧ W = w') := fun W => HLE.out 17 W
  obtain ⟨vv, hvv⟩ : ∃ x, x = toI 17 (fV m m.pc 3) m.pc := ⟨_, rfl⟩
  have HVV := Lib.hid hvv
  obtain ⟨gl, hgl⟩ : ∃ x, x = toI 17 (fV m m.pc 3) m.pc := ⟨_, rfl⟩
  rw [← hgl] at HTO
  have hgv : gl = vv := by rw [hgl, hvv]
  have HTT := Lib.hid ht
  clear hDec hR hM he h0 HLE b5 b6 hvv hgl ht
  generalize fV m m.pc 1 = d1 at *
  generalize fV m m.pc 2 = d2 at *
  generalize fV m m.pc 3 = d3 at *
  go_enter Tryd.func8, Tryd.ntmps8
  go_wp2_with (first | (refine wpList_load_row rfl 29 _ rfl w.heap.size rfl 29 (mC (m) ba bc (.slice s0 s1 s2) ta tc) (0, 0) _ HS.out.b1 Tryd.underlying29 rfl (mSize _ _ _ _ _ _) ?_) | (go_at_call 23; refine HF.out.mono ?_; rintro e W1 ⟨rfl, hb1⟩; have HS1 := Lib.hid (HS.out.next hb1); clear hb1 c16 c17 c18 c23 f17 f18 f23; obtain ⟨c16, c17, c18, c23, f17, f18, f23⟩ := HS1.out.cells; have hlt1 := HS1.out.lt; have HS2 := Lib.hid ((HS1.out.stp (m.st + 1)).next (oalloc _ (.cells #[.int .i64 17, .int .i64 d1, .int .i64 d2, .int .i64 d3] 45)))) | (go_at_call 24; refine (HLD.out _).mono ?_; rintro e w' ⟨rfl, rfl⟩) | (go_at_call 26; refine (HTO.out _).mono ?_; rintro e W4 ⟨rfl, hb4⟩; have HS4 := Lib.hid (HS2.out.next hb4); have kb := ins_box hb4; have i0 := cell_of_block (i := 0) kb rfl; clear hb4 kb; obtain ⟨g16, g17, g18, g23, k17, k18, k23⟩ := HS4.out.cells; rw [HTT.out] at g16; have HS5 : Hid (SB w ({ m with st := m.st + 1, pc := vv }) ba bc (.slice s0 s1 s2) ta tc (W4.setCell ⟨w.heap.size, 17, none⟩ (.int .i64 vv))) := HS4.out.pcp vv) | (refine wpList_load_row rfl 29 _ rfl w.heap.size rfl 29 (mC ({ m with st := m.st + 1, pc := vv }) ba bc (.slice s0 s1 s2) ta tc) (0, 0) _ HS5.out.b1 Tryd.underlying29 rfl (mSize _ _ _ _ _ _) ?_) | (refine wpList_store_row rfl 29 _ _ rfl (w.heap.size + 1) (mC ({ m with st := m.st + 1, pc := vv }) ba bc (.slice s0 s1 s2) ta tc) rfl rfl 29 zC HS5.out.b2 (mSize _ _ _ _ _ _) rfl (mAll _ _ _ _ _ _ _ _) ?_) | fail)
  exact bodyPost_ret (v := .tuple #[.agg (mC ({ m with st := m.st + 1, pc := vv }) ba bc (.slice s0 s1 s2) ta tc), .bool false, .int .i64 0]) (res_s Tryd.results8 rfl rfl rfl (setRow_heap _ _ _ _ _ _ HS5.out.b2) (mSize _ _ _ _ _ _)) rfl ⟨by rw [HVV.out], below_setRow HS5.out.bel (by omega) _⟩

set_option maxRecDepth 100000 in
set_option maxHeartbeats 4000000 in
theorem step_b17n (hDec : DecOk) (m : Ma) (ba : Option Addr) (bc : Nat) (s0 : Option Addr) (s1 s2 : Nat) (ta : Option Addr) (tc : Nat) (w : World) (hM : MOk m) (hp0 : -2147483648 ≤ m.pc) (hp1 : m.pc ≤ 4294967296) (hs0 : 0 ≤ m.st) (hs1 : m.st ≤ 1000000000) (hR : BRd w ba m.by') (he : fetchE m m.pc = 0) (h0 : fV m m.pc 0 = 17) (ht : m.t = false) (hpc : 0 ≤ m.pc) :
    Calls Tryd.prog 8 #[.agg (mC m ba bc (.slice s0 s1 s2) ta tc)] w fun e w' => e = .returned (.tuple #[.agg (mC { m with st := m.st + 1, pc := m.pc + 2 } ba bc (.slice s0 s1 s2) ta tc), .bool false, .int .i64 0]) ∧ Below w.heap.size w w' := by
  have HS : Hid (SB w m ba bc (.slice s0 s1 s2) ta tc ((w.alloc (.cells (mC m ba bc (.slice s0 s1 s2) ta tc) 29)).alloc (.cells #[.int .i64 0, .int .i64 0, .int .i64 0, .int .i64 0, .int .i64 0, .int .i64 0, .int .i64 0, .int .i64 0, .int .i64 0, .int .i64 0, .int .i64 0, .int .i64 0, .int .i64 0, .int .i64 0, .int .i64 0, .int .i64 0, .bool false, .int .i64 0, .int .i64 0, .int .i64 0, .slice none 0 0, .slice none 0 0, .slice none 0 0, .int .i64 0] 29))) := SB.start w m ba bc (.slice s0 s1 s2) ta tc _ rfl
  have HF := Lib.hid (fetch_any hDec m ba bc (.slice s0 s1 s2) ta tc m.pc ((w.alloc (.cells (mC m ba bc (.slice s0 s1 s2) ta tc) 29)).alloc (.cells #[.int .i64 0, .int .i64 0, .int .i64 0, .int .i64 0, .int .i64 0, .int .i64 0, .int .i64 0, .int .i64 0, .int .i64 0, .int .i64 0, .int .i64 0, .int .i64 0, .int .i64 0, .int .i64 0, .int .i64 0, .int .i64 0, .bool false, .int .i64 0, .int .i64 0, .int .i64 0, .slice none 0 0, .slice none 0 0, .slice none 0 0, .int .i64 0] 29)) (hR.next HS.out.bel) hM.b0 hM.b1 (by have := hM.bl; omega) (by omega) (by omega))
  have HNO := Lib.hid no_any
  have HLE := Lib.hid leads_any
  rw [he] at HF
  obtain ⟨c16, c17, c18, c23, f17, f18, f23⟩ := HS.out.cells
  rw [h0] at HF
  obtain ⟨_, _, _, _, b5, b6⟩ := fV_bd m m.pc
  have HTO : Hid (∀ W, Calls Tryd.prog 26 #[.agg #[.int .i64 17, .int .i64 (fV m m.pc 1), .int .i64 (fV m m.pc 2), .int .i64 (fV m m.pc 3)], .int .i64 m.pc] W fun e w' => e = .returned (.tuple #[.int .i64 (toI 17 (fV m m.pc 3) m.pc), .bool (toB 17)]) ∧ Below W.heap.size W w') := fun W => rto_any 17 _ _ _ m.pc W hpc (by omega) b5 b6
  have HLD : Hid (∀ W, Calls Tryd.prog 24 #[.int .i64 17] W fun e w' => e = .returned (.bool true) ∧ W = w') := fun W => HLE.out 17 W
  obtain ⟨vv, hvv⟩ : ∃ x, x = m.pc + 2 := ⟨_, rfl⟩
  have HVV := Lib.hid hvv
  obtain ⟨gl, hgl⟩ : ∃ x, x = toI 17 (fV m m.pc 3) m.pc := ⟨_, rfl⟩
  rw [← hgl] at HTO
  have hgv : m.pc + 2 = vv := hvv.symm
  have HTT := Lib.hid ht
  clear hDec hR hM he h0 HLE b5 b6 hvv hgl ht
  generalize fV m m.pc 1 = d1 at *
  generalize fV m m.pc 2 = d2 at *
  generalize fV m m.pc 3 = d3 at *
  go_enter Tryd.func8, Tryd.ntmps8
  go_wp2_with (first | (refine wpList_load_row rfl 29 _ rfl w.heap.size rfl 29 (mC (m) ba bc (.slice s0 s1 s2) ta tc) (0, 0) _ HS.out.b1 Tryd.underlying29 rfl (mSize _ _ _ _ _ _) ?_) | (go_at_call 23; refine HF.out.mono ?_; rintro e W1 ⟨rfl, hb1⟩; have HS1 := Lib.hid (HS.out.next hb1); clear hb1 c16 c17 c18 c23 f17 f18 f23; obtain ⟨c16, c17, c18, c23, f17, f18, f23⟩ := HS1.out.cells; have hlt1 := HS1.out.lt; have HS2 := Lib.hid ((HS1.out.stp (m.st + 1)).next (oalloc _ (.cells #[.int .i64 17, .int .i64 d1, .int .i64 d2, .int .i64 d3] 45)))) | (go_at_call 24; refine (HLD.out _).mono ?_; rintro e w' ⟨rfl, rfl⟩) | (go_at_call 26; refine (HTO.out _).mono ?_; rintro e W4 ⟨rfl, hb4⟩; have HS4 := Lib.hid (HS2.out.next hb4); have kb := ins_box hb4; have i0 := cell_of_block (i := 0) kb rfl; clear hb4 kb; obtain ⟨g16, g17, g18, g23, k17, k18, k23⟩ := HS4.out.cells; rw [HTT.out] at g16; have HS5 : Hid (SB w ({ m with st := m.st + 1, pc := vv }) ba bc (.slice s0 s1 s2) ta tc (W4.setCell ⟨w.heap.size, 17, none⟩ (.int .i64 vv))) := HS4.out.pcp vv) | (refine wpList_load_row rfl 29 _ rfl w.heap.size rfl 29 (mC ({ m with st := m.st + 1, pc := vv }) ba bc (.slice s0 s1 s2) ta tc) (0, 0) _ HS5.out.b1 Tryd.underlying29 rfl (mSize _ _ _ _ _ _) ?_) | (refine wpList_store_row rfl 29 _ _ rfl (w.heap.size + 1) (mC ({ m with st := m.st + 1, pc := vv }) ba bc (.slice s0 s1 s2) ta tc) rfl rfl 29 zC HS5.out.b2 (mSize _ _ _ _ _ _) rfl (mAll _ _ _ _ _ _ _ _) ?_) | fail)
  exact bodyPost_ret (v := .tuple #[.agg (mC ({ m with st := m.st + 1, pc := vv }) ba bc (.slice s0 s1 s2) ta tc), .bool false, .int .i64 0]) (res_s Tryd.results8 rfl rfl rfl (setRow_heap _ _ _ _ _ _ HS5.out.b2) (mSize _ _ _ _ _ _)) rfl ⟨by rw [HVV.out], below_setRow HS5.out.bel (by omega) _⟩

set_option maxRecDepth 100000 in
set_option maxHeartbeats 4000000 in
theorem step_b18y (hDec : DecOk) (m : Ma) (ba : Option Addr) (bc : Nat) (s0 : Option Addr) (s1 s2 : Nat) (ta : Option Addr) (tc : Nat) (w : World) (hM : MOk m) (hp0 : -2147483648 ≤ m.pc) (hp1 : m.pc ≤ 4294967296) (hs0 : 0 ≤ m.st) (hs1 : m.st ≤ 1000000000) (hR : BRd w ba m.by') (he : fetchE m m.pc = 0) (h0 : fV m m.pc 0 = 18) (ht : m.t = false) (hpc : 0 ≤ m.pc) :
    Calls Tryd.prog 8 #[.agg (mC m ba bc (.slice s0 s1 s2) ta tc)] w fun e w' => e = .returned (.tuple #[.agg (mC { m with st := m.st + 1, pc := toI 18 (fV m m.pc 3) m.pc } ba bc (.slice s0 s1 s2) ta tc), .bool false, .int .i64 0]) ∧ Below w.heap.size w w' := by
  have HS : Hid (SB w m ba bc (.slice s0 s1 s2) ta tc ((w.alloc (.cells (mC m ba bc (.slice s0 s1 s2) ta tc) 29)).alloc (.cells #[.int .i64 0, .int .i64 0, .int .i64 0, .int .i64 0, .int .i64 0, .int .i64 0, .int .i64 0, .int .i64 0, .int .i64 0, .int .i64 0, .int .i64 0, .int .i64 0, .int .i64 0, .int .i64 0, .int .i64 0, .int .i64 0, .bool false, .int .i64 0, .int .i64 0, .int .i64 0, .slice none 0 0, .slice none 0 0, .slice none 0 0, .int .i64 0] 29))) := SB.start w m ba bc (.slice s0 s1 s2) ta tc _ rfl
  have HF := Lib.hid (fetch_any hDec m ba bc (.slice s0 s1 s2) ta tc m.pc ((w.alloc (.cells (mC m ba bc (.slice s0 s1 s2) ta tc) 29)).alloc (.cells #[.int .i64 0, .int .i64 0, .int .i64 0, .int .i64 0, .int .i64 0, .int .i64 0, .int .i64 0, .int .i64 0, .int .i64 0, .int .i64 0, .int .i64 0, .int .i64 0, .int .i64 0, .int .i64 0, .int .i64 0, .int .i64 0, .bool false, .int .i64 0, .int .i64 0, .int .i64 0, .slice none 0 0, .slice none 0 0, .slice none 0 0, .int .i64 0] 29)) (hR.next HS.out.bel) hM.b0 hM.b1 (by have := hM.bl; omega) (by omega) (by omega))
  have HNO := Lib.hid no_any
  have HLE := Lib.hid leads_any
  rw [he] at HF
  obtain ⟨c16, c17, c18, c23, f17, f18, f23⟩ := HS.out.cells
  rw [h0] at HF
  obtain ⟨_, _, _, _, b5, b6⟩ := fV_bd m m.pc
  have HTO : Hid (∀ W, Calls Tryd.prog 26 #[.agg #[.int .i64 18, .int .i64 (fV m m.pc 1), .int .i64 (fV m m.pc 2), .int .i64 (fV m m.pc 3)], .int .i64 m.pc] W fun e w' => e = .returned (.tuple #[.int .i64 (toI 18 (fV m m.pc 3) m.pc), .bool (toB 18)]) ∧ Below W.heap.size W w') := fun W => rto_any 18 _ _ _ m.pc W hpc (by omega) b5 b6
  have HLD : Hid (∀ W, Calls Tryd.prog 24 #[.int .i64 18] W fun e w' => e = .returned (.bool true) ∧ W = w') := fun W => HLE.out 18 W
  obtain ⟨vv, hvv⟩ : ∃ x, x = toI 18 (fV m m.pc 3) m.pc := ⟨_, rfl⟩
  have HVV := Lib.hid hvv
  obtain ⟨gl, hgl⟩ : ∃ x, x = toI 18 (fV m m.pc 3) m.pc := ⟨_, rfl⟩
  rw [← hgl] at HTO
  have hgv : gl = vv := by rw [hgl, hvv]
  have HTT := Lib.hid ht
  clear hDec hR hM he h0 HLE b5 b6 hvv hgl ht
  generalize fV m m.pc 1 = d1 at *
  generalize fV m m.pc 2 = d2 at *
  generalize fV m m.pc 3 = d3 at *
  go_enter Tryd.func8, Tryd.ntmps8
  go_wp2_with (first | (refine wpList_load_row rfl 29 _ rfl w.heap.size rfl 29 (mC (m) ba bc (.slice s0 s1 s2) ta tc) (0, 0) _ HS.out.b1 Tryd.underlying29 rfl (mSize _ _ _ _ _ _) ?_) | (go_at_call 23; refine HF.out.mono ?_; rintro e W1 ⟨rfl, hb1⟩; have HS1 := Lib.hid (HS.out.next hb1); clear hb1 c16 c17 c18 c23 f17 f18 f23; obtain ⟨c16, c17, c18, c23, f17, f18, f23⟩ := HS1.out.cells; have hlt1 := HS1.out.lt; have HS2 := Lib.hid ((HS1.out.stp (m.st + 1)).next (oalloc _ (.cells #[.int .i64 18, .int .i64 d1, .int .i64 d2, .int .i64 d3] 45)))) | (go_at_call 24; refine (HLD.out _).mono ?_; rintro e w' ⟨rfl, rfl⟩) | (go_at_call 26; refine (HTO.out _).mono ?_; rintro e W4 ⟨rfl, hb4⟩; have HS4 := Lib.hid (HS2.out.next hb4); have kb := ins_box hb4; have i0 := cell_of_block (i := 0) kb rfl; clear hb4 kb; obtain ⟨g16, g17, g18, g23, k17, k18, k23⟩ := HS4.out.cells; rw [HTT.out] at g16; have HS5 : Hid (SB w ({ m with st := m.st + 1, pc := vv }) ba bc (.slice s0 s1 s2) ta tc (W4.setCell ⟨w.heap.size, 17, none⟩ (.int .i64 vv))) := HS4.out.pcp vv) | (refine wpList_load_row rfl 29 _ rfl w.heap.size rfl 29 (mC ({ m with st := m.st + 1, pc := vv }) ba bc (.slice s0 s1 s2) ta tc) (0, 0) _ HS5.out.b1 Tryd.underlying29 rfl (mSize _ _ _ _ _ _) ?_) | (refine wpList_store_row rfl 29 _ _ rfl (w.heap.size + 1) (mC ({ m with st := m.st + 1, pc := vv }) ba bc (.slice s0 s1 s2) ta tc) rfl rfl 29 zC HS5.out.b2 (mSize _ _ _ _ _ _) rfl (mAll _ _ _ _ _ _ _ _) ?_) | fail)
  exact bodyPost_ret (v := .tuple #[.agg (mC ({ m with st := m.st + 1, pc := vv }) ba bc (.slice s0 s1 s2) ta tc), .bool false, .int .i64 0]) (res_s Tryd.results8 rfl rfl rfl (setRow_heap _ _ _ _ _ _ HS5.out.b2) (mSize _ _ _ _ _ _)) rfl ⟨by rw [HVV.out], below_setRow HS5.out.bel (by omega) _⟩

set_option maxRecDepth 100000 in
set_option maxHeartbeats 4000000 in
theorem step_b18n (hDec : DecOk) (m : Ma) (ba : Option Addr) (bc : Nat) (s0 : Option Addr) (s1 s2 : Nat) (ta : Option Addr) (tc : Nat) (w : World) (hM : MOk m) (hp0 : -2147483648 ≤ m.pc) (hp1 : m.pc ≤ 4294967296) (hs0 : 0 ≤ m.st) (hs1 : m.st ≤ 1000000000) (hR : BRd w ba m.by') (he : fetchE m m.pc = 0) (h0 : fV m m.pc 0 = 18) (ht : m.t = true) (hpc : 0 ≤ m.pc) :
    Calls Tryd.prog 8 #[.agg (mC m ba bc (.slice s0 s1 s2) ta tc)] w fun e w' => e = .returned (.tuple #[.agg (mC { m with st := m.st + 1, pc := m.pc + 2 } ba bc (.slice s0 s1 s2) ta tc), .bool false, .int .i64 0]) ∧ Below w.heap.size w w' := by
  have HS : Hid (SB w m ba bc (.slice s0 s1 s2) ta tc ((w.alloc (.cells (mC m ba bc (.slice s0 s1 s2) ta tc) 29)).alloc (.cells #[.int .i64 0, .int .i64 0, .int .i64 0, .int .i64 0, .int .i64 0, .int .i64 0, .int .i64 0, .int .i64 0, .int .i64 0, .int .i64 0, .int .i64 0, .int .i64 0, .int .i64 0, .int .i64 0, .int .i64 0, .int .i64 0, .bool false, .int .i64 0, .int .i64 0, .int .i64 0, .slice none 0 0, .slice none 0 0, .slice none 0 0, .int .i64 0] 29))) := SB.start w m ba bc (.slice s0 s1 s2) ta tc _ rfl
  have HF := Lib.hid (fetch_any hDec m ba bc (.slice s0 s1 s2) ta tc m.pc ((w.alloc (.cells (mC m ba bc (.slice s0 s1 s2) ta tc) 29)).alloc (.cells #[.int .i64 0, .int .i64 0, .int .i64 0, .int .i64 0, .int .i64 0, .int .i64 0, .int .i64 0, .int .i64 0, .int .i64 0, .int .i64 0, .int .i64 0, .int .i64 0, .int .i64 0, .int .i64 0, .int .i64 0, .int .i64 0, .bool false, .int .i64 0, .int .i64 0, .int .i64 0, .slice none 0 0, .slice none 0 0, .slice none 0 0, .int .i64 0] 29)) (hR.next HS.out.bel) hM.b0 hM.b1 (by have := hM.bl; omega) (by omega) (by omega))
  have HNO := Lib.hid no_any
  have HLE := Lib.hid leads_any
  rw [he] at HF
  obtain ⟨c16, c17, c18, c23, f17, f18, f23⟩ := HS.out.cells
  rw [h0] at HF
  obtain ⟨_, _, _, _, b5, b6⟩ := fV_bd m m.pc
  have HTO : Hid (∀ W, Calls Tryd.prog 26 #[.agg #[.int .i64 18, .int .i64 (fV m m.pc 1), .int .i64 (fV m m.pc 2), .int .i64 (fV m m.pc 3)], .int .i64 m.pc] W fun e w' => e = .returned (.tuple #[.int .i64 (toI 18 (fV m m.pc 3) m.pc), .bool (toB 18)]) ∧ Below W.heap.size W w') := fun W => rto_any 18 _ _ _ m.pc W hpc (by omega) b5 b6
  have HLD : Hid (∀ W, Calls Tryd.prog 24 #[.int .i64 18] W fun e w' => e = .returned (.bool true) ∧ W = w') := fun W => HLE.out 18 W
  obtain ⟨vv, hvv⟩ : ∃ x, x = m.pc + 2 := ⟨_, rfl⟩
  have HVV := Lib.hid hvv
  obtain ⟨gl, hgl⟩ : ∃ x, x = toI 18 (fV m m.pc 3) m.pc := ⟨_, rfl⟩
  rw [← hgl] at HTO
  have hgv : m.pc + 2 = vv := hvv.symm
  have HTT := Lib.hid ht
  clear hDec hR hM he h0 HLE b5 b6 hvv hgl ht
  generalize fV m m.pc 1 = d1 at *
  generalize fV m m.pc 2 = d2 at *
  generalize fV m m.pc 3 = d3 at *
  go_enter Tryd.func8, Tryd.ntmps8
  go_wp2_with (first | (refine wpList_load_row rfl 29 _ rfl w.heap.size rfl 29 (mC (m) ba bc (.slice s0 s1 s2) ta tc) (0, 0) _ HS.out.b1 Tryd.underlying29 rfl (mSize _ _ _ _ _ _) ?_) | (go_at_call 23; refine HF.out.mono ?_; rintro e W1 ⟨rfl, hb1⟩; have HS1 := Lib.hid (HS.out.next hb1); clear hb1 c16 c17 c18 c23 f17 f18 f23; obtain ⟨c16, c17, c18, c23, f17, f18, f23⟩ := HS1.out.cells; have hlt1 := HS1.out.lt; have HS2 := Lib.hid ((HS1.out.stp (m.st + 1)).next (oalloc _ (.cells #[.int .i64 18, .int .i64 d1, .int .i64 d2, .int .i64 d3] 45)))) | (go_at_call 24; refine (HLD.out _).mono ?_; rintro e w' ⟨rfl, rfl⟩) | (go_at_call 26; refine (HTO.out _).mono ?_; rintro e W4 ⟨rfl, hb4⟩; have HS4 := Lib.hid (HS2.out.next hb4); have kb := ins_box hb4; have i0 := cell_of_block (i := 0) kb rfl; clear hb4 kb; obtain ⟨g16, g17, g18, g23, k17, k18, k23⟩ := HS4.out.cells; rw [HTT.out] at g16; have HS5 : Hid (SB w ({ m with st := m.st + 1, pc := vv }) ba bc (.slice s0 s1 s2) ta tc (W4.setCell ⟨w.heap.size, 17, none⟩ (.int .i64 vv))) := HS4.out.pcp vv) | (refine wpList_load_row rfl 29 _ rfl w.heap.size rfl 29 (mC ({ m with st := m.st + 1, pc := vv }) ba bc (.slice s0 s1 s2) ta tc) (0, 0) _ HS5.out.b1 Tryd.underlying29 rfl (mSize _ _ _ _ _ _) ?_) | (refine wpList_store_row rfl 29 _ _ rfl (w.heap.size + 1) (mC ({ m with st := m.st + 1, pc := vv }) ba bc (.slice s0 s1 s2) ta tc) rfl rfl 29 zC HS5.out.b2 (mSize _ _ _ _ _ _) rfl (mAll _ _ _ _ _ _ _ _) ?_) | fail)
  exact bodyPost_ret (v := .tuple #[.agg (mC ({ m with st := m.st + 1, pc := vv }) ba bc (.slice s0 s1 s2) ta tc), .bool false, .int .i64 0]) (res_s Tryd.results8 rfl rfl rfl (setRow_heap _ _ _ _ _ _ HS5.out.b2) (mSize _ _ _ _ _ _)) rfl ⟨by rw [HVV.out], below_setRow HS5.out.bel (by omega) _⟩

end Go.Proofs.YtabepbaldadmgaaDoor
