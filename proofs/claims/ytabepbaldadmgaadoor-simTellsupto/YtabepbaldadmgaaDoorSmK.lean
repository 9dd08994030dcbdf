/- The document's own Step: plain instructions. -/
import Derived.Test.YtabepbaldadmgaaDoorPut33
namespace Go.Proofs.YtabepbaldadmgaaDoor
open Go.RowKit Isa

theorem SB.row {w : World} {M : Ma} {ba : Option Addr} {bc : Nat} {sv : Value} {ta : Option Addr} {tc : Nat} {W : World} (h : SB w M ba bc sv ta tc W) (g : Nat) (hg : w.heap.size + 1 < g) (cs : Array Value) : SB w M ba bc sv ta tc (W.setRow g cs) :=
  ⟨below_setRow h.bel (by omega) _, by rw [setRow_other _ _ _ _ (by omega)]; exact h.b1, by rw [setRow_other _ _ _ _ (by omega)]; exact h.b2⟩
theorem SB.other {w : World} {M : Ma} {ba : Option Addr} {bc : Nat} {sv : Value} {ta : Option Addr} {tc : Nat} {W : World} (h : SB w M ba bc sv ta tc W) (g i : Nat) (hg : w.heap.size + 1 < g) (v : Value) : SB w M ba bc sv ta tc (W.setCell ⟨g, i, none⟩ v) :=
  ⟨h.bel.setCell (by show w.heap.size ≤ g; omega) _, by rw [Below.heap_setCell _ _ _ _ (by show w.heap.size ≠ g; omega)]; exact h.b1, by rw [Below.heap_setCell _ _ _ _ (by show w.heap.size + 1 ≠ g; omega)]; exact h.b2⟩
theorem SB.lt2 {w : World} {M : Ma} {ba : Option Addr} {bc : Nat} {sv : Value} {ta : Option Addr} {tc : Nat} {W : World} (h : SB w M ba bc sv ta tc W) : w.heap.size + 1 < W.heap.size := (Array.getElem?_eq_some_iff.1 h.b2).1
/-- A machine's box elsewhere. -/
theorem mb_pc {W : World} {g : Nat} {M : Ma} {ba : Option Addr} {bc : Nat} {sv : Value} {ta : Option Addr} {tc : Nat} (h : W.heap[g]? = some (.cells (mC M ba bc sv ta tc) 29 (0, 0))) (v : Int) : (W.setCell ⟨g, 17, none⟩ (.int .i64 v)).heap[g]? = some (.cells (mC { M with pc := v } ba bc sv ta tc) 29 (0, 0)) := by
  rw [_root_.Go.heap_setCell_same W g 17 _ 29 _ h]; rfl
theorem fin_cell {W4 : World} {z c1 c2 : Array Value} {v : Value} {b j q : Nat} (h1 : b < W4.heap.size) (h2 : b ≠ q) : ((((W4.alloc (.cells z 29)).setRow W4.heap.size c1).setCell ⟨W4.heap.size, 17, none⟩ v).setRow q c2).cell? ⟨b, j, none⟩ = W4.cell? ⟨b, j, none⟩ := by
  rw [cell_setRow_other _ _ _ _ (by exact h2)]
  rw [World.cell?_of_block (Below.heap_setCell _ _ _ _ (by show b ≠ W4.heap.size; omega))]
  rw [cell_setRow_other _ _ _ _ (by show b ≠ W4.heap.size; omega)]
  exact (oalloc _ _).cell (by exact h1)
theorem rd_row {W : World} {g : Nat} {ba : Option Addr} {l : List UInt8} (h : BRd W ba l) (hg : W.heap.size ≤ g) (cs : Array Value) : BRd (W.setRow g cs) ba l := fun h0 => by
  obtain ⟨b, off, e, hl, hc⟩ := h h0
  exact ⟨b, off, e, by simpa using hl, fun i hi => (cell_setRow_other _ _ _ _ (by show b ≠ g; omega)).trans (hc i hi)⟩

set_option maxRecDepth 100000 in
set_option maxHeartbeats 4000000 in
theorem step_plain_oe (hDec : DecOk) (m : Ma) (ba : Option Addr) (bc : Nat) (s0 : Option Addr) (s1 s2 : Nat) (ta : Option Addr) (tc : Nat) (w : World) (hM : MOk m) (hp0 : -2147483648 ≤ m.pc) (hp1 : m.pc ≤ 4294967296) (hs0 : 0 ≤ m.st) (hs1 : m.st ≤ 1000000000) (hR : BRd w ba m.by') (hTr : TrapOk) (hT : TRd w ta m.told) (he : fetchE m m.pc = 0) (hld : leadsB (fV m m.pc 0) = false) (h27 : fV m m.pc 0 ≠ 27) (hop : fV m m.pc 0 = 1 ∨ (3 ≤ fV m m.pc 0 ∧ fV m m.pc 0 ≤ 16) ∨ (23 ≤ fV m m.pc 0 ∧ fV m m.pc 0 ≤ 27)) (hpc : 0 ≤ m.pc) (hE : plainE ({ m with st := m.st + 1 }) (fV m m.pc 0) (fV m m.pc 1) (fV m m.pc 2) (fV m m.pc 3) m.pc ≠ 0) :
    Calls Tryd.prog 8 #[.agg (mC m ba bc (.slice s0 s1 s2) ta tc)] w fun e w' => e = .returned (.tuple #[.agg zC, .bool false, .int .i64 (plainE ({ m with st := m.st + 1 }) (fV m m.pc 0) (fV m m.pc 1) (fV m m.pc 2) (fV m m.pc 3) m.pc)]) ∧ Below w.heap.size w w' := by
  have HS : Hid (SB w m ba bc (.slice s0 s1 s2) ta tc ((w.alloc (.cells (mC m ba bc (.slice s0 s1 s2) ta tc) 29)).alloc (.cells #[.int .i64 0, .int .i64 0, .int .i64 0, .int .i64 0, .int .i64 0, .int .i64 0, .int .i64 0, .int .i64 0, .int .i64 0, .int .i64 0, .int .i64 0, .int .i64 0, .int .i64 0, .int .i64 0, .int .i64 0, .int .i64 0, .bool false, .int .i64 0, .int .i64 0, .int .i64 0, .slice none 0 0, .slice none 0 0, .slice none 0 0, .int .i64 0] 29))) := SB.start w m ba bc (.slice s0 s1 s2) ta tc _ rfl
  have HF := Lib.hid (fetch_any hDec m ba bc (.slice s0 s1 s2) ta tc m.pc ((w.alloc (.cells (mC m ba bc (.slice s0 s1 s2) ta tc) 29)).alloc (.cells #[.int .i64 0, .int .i64 0, .int .i64 0, .int .i64 0, .int .i64 0, .int .i64 0, .int .i64 0, .int .i64 0, .int .i64 0, .int .i64 0, .int .i64 0, .int .i64 0, .int .i64 0, .int .i64 0, .int .i64 0, .int .i64 0, .bool false, .int .i64 0, .int .i64 0, .int .i64 0, .slice none 0 0, .slice none 0 0, .slice none 0 0, .int .i64 0] 29)) (hR.next HS.out.bel) hM.b0 hM.b1 (by have := hM.bl; omega) (by omega) (by omega))
  have HNO := Lib.hid no_any
  have HLE := Lib.hid leads_any
  rw [he] at HF
  obtain ⟨c16, c17, c18, c23, f17, f18, f23⟩ := HS.out.cells
  obtain ⟨b1, b2, b3, b4, b5, b6⟩ := fV_bd m m.pc
  have HPL : Hid (∀ W, Below w.heap.size w W → Calls Tryd.prog 25 #[.agg (mC ({ m with st := m.st + 1 }) ba bc (.slice s0 s1 s2) ta tc), .agg #[.int .i64 (fV m m.pc 0), .int .i64 (fV m m.pc 1), .int .i64 (fV m m.pc 2), .int .i64 (fV m m.pc 3)], .int .i64 m.pc] W (PlPost W ({ m with st := m.st + 1 }) ba ta s0 s1 s2 (plainM ({ m with st := m.st + 1 }) (fV m m.pc 0) (fV m m.pc 1) (fV m m.pc 2) (fV m m.pc 3) m.pc) (plainE ({ m with st := m.st + 1 }) (fV m m.pc 0) (fV m m.pc 1) (fV m m.pc 2) (fV m m.pc 3) m.pc))) := fun W hb => plain_any hTr ({ m with st := m.st + 1 }) ba bc s0 s1 s2 ta tc _ _ _ _ m.pc W b1 b2 b3 b4 b5 b6 hpc (by omega) ⟨hM.b0, hM.b1, hM.bl, hM.tl⟩ (hR.next hb) (hT.next hb) hop
  have HLD : Hid (∀ W, Calls Tryd.prog 24 #[.int .i64 (fV m m.pc 0)] W fun e w' => e = .returned (.bool false) ∧ W = w') := fun W => by
    have := HLE.out (fV m m.pc 0) W
    rw [hld] at this
    exact this
  have h27b : (fV m m.pc 0 == 27) = false := by simpa using h27
  obtain ⟨MM, hMM⟩ : ∃ x, x = plainM ({ m with st := m.st + 1 }) (fV m m.pc 0) (fV m m.pc 1) (fV m m.pc 2) (fV m m.pc 3) m.pc := ⟨_, rfl⟩
  obtain ⟨EE, hEE⟩ : ∃ x, x = plainE ({ m with st := m.st + 1 }) (fV m m.pc 0) (fV m m.pc 1) (fV m m.pc 2) (fV m m.pc 3) m.pc := ⟨_, rfl⟩
  rw [← hMM, ← hEE] at HPL
  rw [← hEE] at hE
  rw [← hEE]
  have hEb : (EE != 0) = true := by simpa using hE
  have HRW := Lib.hid hR
  have HTW := Lib.hid hT
  clear hDec hR hM he hop hT hTr hMM hEE HLE b1 b2 b3 b4 b5 b6 h27 hE hld
  generalize fV m m.pc 0 = d0 at *
  generalize fV m m.pc 1 = d1 at *
  generalize fV m m.pc 2 = d2 at *
  generalize fV m m.pc 3 = d3 at *
  go_enter Tryd.func8, Tryd.ntmps8
  go_wp2_with (first | (refine wpList_load_row rfl 29 _ rfl w.heap.size rfl 29 (mC (m) ba bc (.slice s0 s1 s2) ta tc) (0, 0) _ HS.out.b1 Tryd.underlying29 rfl (mSize _ _ _ _ _ _) ?_) | (go_at_call 23; refine HF.out.mono ?_; rintro e W1 ⟨rfl, hb1⟩; have HS1 := Lib.hid (HS.out.next hb1); clear hb1 c16 c17 c18 c23 f17 f18 f23; obtain ⟨c16, c17, c18, c23, f17, f18, f23⟩ := HS1.out.cells; have hlt1 := HS1.out.lt; have HS2 := Lib.hid ((HS1.out.stp (m.st + 1)).next (oalloc _ (.cells #[.int .i64 d0, .int .i64 d1, .int .i64 d2, .int .i64 d3] 45)))) | (go_at_call 24; refine (HLD.out _).mono ?_; rintro e w' ⟨rfl, rfl⟩) | (refine wpList_load_row rfl 29 _ rfl w.heap.size rfl 29 (mC ({ m with st := m.st + 1 }) ba bc (.slice s0 s1 s2) ta tc) (0, 0) _ HS2.out.b1 Tryd.underlying29 rfl (mSize _ _ _ _ _ _) ?_) | (go_at_call 25; refine (HPL.out _ HS2.out.bel).mono ?_; rintro e W4 ⟨ba', bc', ta', tc', rfl, hb4, hr4, ht4, hab, hat⟩; have HS4 := Lib.hid (HS2.out.next hb4); have HR4 := Lib.hid hr4; have HT4 := Lib.hid ht4; have HAB := Lib.hid hab; have HAT := Lib.hid hat; have HK4 := Lib.hid (blk_new W4 #[.int .i64 0, .int .i64 0, .int .i64 0, .int .i64 0, .int .i64 0, .int .i64 0, .int .i64 0, .int .i64 0, .int .i64 0, .int .i64 0, .int .i64 0, .int .i64 0, .int .i64 0, .int .i64 0, .int .i64 0, .int .i64 0, .bool false, .int .i64 0, .int .i64 0, .int .i64 0, .slice none 0 0, .slice none 0 0, .slice none 0 0, .int .i64 0] 29); have hlt4 := HS4.out.lt2; have HS5 := Lib.hid ((HS4.out.next (oalloc W4 (.cells #[.int .i64 0, .int .i64 0, .int .i64 0, .int .i64 0, .int .i64 0, .int .i64 0, .int .i64 0, .int .i64 0, .int .i64 0, .int .i64 0, .int .i64 0, .int .i64 0, .int .i64 0, .int .i64 0, .int .i64 0, .int .i64 0, .bool false, .int .i64 0, .int .i64 0, .int .i64 0, .slice none 0 0, .slice none 0 0, .slice none 0 0, .int .i64 0] 29))).row W4.heap.size hlt4 (mC MM ba' bc' (.slice s0 s1 s2) ta' tc')); have k5 := setRow_heap _ _ _ (mC MM ba' bc' (.slice s0 s1 s2) ta' tc') _ _ HK4.out; have HK5 := Lib.hid k5; have x17 : ((W4.alloc (.cells #[.int .i64 0, .int .i64 0, .int .i64 0, .int .i64 0, .int .i64 0, .int .i64 0, .int .i64 0, .int .i64 0, .int .i64 0, .int .i64 0, .int .i64 0, .int .i64 0, .int .i64 0, .int .i64 0, .int .i64 0, .int .i64 0, .bool false, .int .i64 0, .int .i64 0, .int .i64 0, .slice none 0 0, .slice none 0 0, .slice none 0 0, .int .i64 0] 29)).setRow W4.heap.size (mC MM ba' bc' (.slice s0 s1 s2) ta' tc')).cell? ⟨W4.heap.size, 17, none⟩ = some (.int .i64 MM.pc) := cell_of_block (i := 17) k5 rfl; have x17f := blk_froz (i := 17) k5; have y17 := HS5.out.cells.2.1; clear hb4 hr4 ht4 k5 hab hat; have HK6 := Lib.hid (mb_pc HK5.out (m.pc + 2)); have HS7 := Lib.hid (HS5.out.other W4.heap.size 17 hlt4 (.int .i64 (m.pc + 2)))) | (refine wpList_store_row rfl 29 _ _ rfl W4.heap.size (mC (MM) ba' bc' (.slice s0 s1 s2) ta' tc') rfl rfl 29 #[.int .i64 0, .int .i64 0, .int .i64 0, .int .i64 0, .int .i64 0, .int .i64 0, .int .i64 0, .int .i64 0, .int .i64 0, .int .i64 0, .int .i64 0, .int .i64 0, .int .i64 0, .int .i64 0, .int .i64 0, .int .i64 0, .bool false, .int .i64 0, .int .i64 0, .int .i64 0, .slice none 0 0, .slice none 0 0, .slice none 0 0, .int .i64 0] HK4.out (mSize _ _ _ _ _ _) rfl (mAll _ _ _ _ _ _ _ _) ?_) | (go_at_call 22; refine (HNO.out _ _).mono ?_; rintro e W6 ⟨rfl, hb6⟩; have HS6 := Lib.hid (HS5.out.next hb6); clear hb6) | (refine wpList_store_row rfl 29 _ _ rfl (w.heap.size + 1) zC rfl rfl 29 zC HS6.out.b2 zSize rfl zAll ?_) | fail)
  exact bodyPost_ret (v := .tuple #[.agg zC, .bool false, .int .i64 EE]) (res_s Tryd.results8 rfl rfl rfl (setRow_heap _ _ _ _ _ _ HS6.out.b2) zSize) rfl ⟨rfl, below_setRow HS6.out.bel (by omega) _⟩

set_option maxRecDepth 100000 in
set_option maxHeartbeats 4000000 in
theorem step_plain_o (hDec : DecOk) (m : Ma) (ba : Option Addr) (bc : Nat) (s0 : Option Addr) (s1 s2 : Nat) (ta : Option Addr) (tc : Nat) (w : World) (hM : MOk m) (hp0 : -2147483648 ≤ m.pc) (hp1 : m.pc ≤ 4294967296) (hs0 : 0 ≤ m.st) (hs1 : m.st ≤ 1000000000) (hR : BRd w ba m.by') (hTr : TrapOk) (hT : TRd w ta m.told) (he : fetchE m m.pc = 0) (hld : leadsB (fV m m.pc 0) = false) (h27 : fV m m.pc 0 ≠ 27) (hop : fV m m.pc 0 = 1 ∨ (3 ≤ fV m m.pc 0 ∧ fV m m.pc 0 ≤ 16) ∨ (23 ≤ fV m m.pc 0 ∧ fV m m.pc 0 ≤ 27)) (hpc : 0 ≤ m.pc) (hE : plainE ({ m with st := m.st + 1 }) (fV m m.pc 0) (fV m m.pc 1) (fV m m.pc 2) (fV m m.pc 3) m.pc = 0) :
    Calls Tryd.prog 8 #[.agg (mC m ba bc (.slice s0 s1 s2) ta tc)] w fun e w' => ∃ ba' bc' ta' tc', e = .returned (.tuple #[.agg (mC { plainM ({ m with st := m.st + 1 }) (fV m m.pc 0) (fV m m.pc 1) (fV m m.pc 2) (fV m m.pc 3) m.pc with pc := m.pc + 2 } ba' bc' (.slice s0 s1 s2) ta' tc'), .bool false, .int .i64 0]) ∧ Below w.heap.size w w' ∧ BRd w' ba' (plainM ({ m with st := m.st + 1 }) (fV m m.pc 0) (fV m m.pc 1) (fV m m.pc 2) (fV m m.pc 3) m.pc).by' ∧ TRd w' ta' (plainM ({ m with st := m.st + 1 }) (fV m m.pc 0) (fV m m.pc 1) (fV m m.pc 2) (fV m m.pc 3) m.pc).told ∧ NearA w ba ba' m.by' (plainM ({ m with st := m.st + 1 }) (fV m m.pc 0) (fV m m.pc 1) (fV m m.pc 2) (fV m m.pc 3) m.pc).by' ∧ NearA w ta ta' m.told (plainM ({ m with st := m.st + 1 }) (fV m m.pc 0) (fV m m.pc 1) (fV m m.pc 2) (fV m m.pc 3) m.pc).told := by
  have HS : Hid (SB w m ba bc (.slice s0 s1 s2) ta tc ((w.alloc (.cells (mC m ba bc (.slice s0 s1 s2) ta tc) 29)).alloc (.cells #[.int .i64 0, .int .i64 0, .int .i64 0, .int .i64 0, .int .i64 0, .int .i64 0, .int .i64 0, .int .i64 0, .int .i64 0, .int .i64 0, .int .i64 0, .int .i64 0, .int .i64 0, .int .i64 0, .int .i64 0, .int .i64 0, .bool false, .int .i64 0, .int .i64 0, .int .i64 0, .slice none 0 0, .slice none 0 0, .slice none 0 0, .int .i64 0] 29))) := SB.start w m ba bc (.slice s0 s1 s2) ta tc _ rfl
  have HF := Lib.hid (fetch_any hDec m ba bc (.slice s0 s1 s2) ta tc m.pc ((w.alloc (.cells (mC m ba bc (.slice s0 s1 s2) ta tc) 29)).alloc (.cells #[.int .i64 0, .int .i64 0, .int .i64 0, .int .i64 0, .int .i64 0, .int .i64 0, .int .i64 0, .int .i64 0, .int .i64 0, .int .i64 0, .int .i64 0, .int .i64 0, .int .i64 0, .int .i64 0, .int .i64 0, .int .i64 0, .bool false, .int .i64 0, .int .i64 0, .int .i64 0, .slice none 0 0, .slice none 0 0, .slice none 0 0, .int .i64 0] 29)) (hR.next HS.out.bel) hM.b0 hM.b1 (by have := hM.bl; omega) (by omega) (by omega))
  have HNO := Lib.hid no_any
  have HLE := Lib.hid leads_any
  rw [he] at HF
  obtain ⟨c16, c17, c18, c23, f17, f18, f23⟩ := HS.out.cells
  obtain ⟨b1, b2, b3, b4, b5, b6⟩ := fV_bd m m.pc
  have HPL : Hid (∀ W, Below w.heap.size w W → Calls Tryd.prog 25 #[.agg (mC ({ m with st := m.st + 1 }) ba bc (.slice s0 s1 s2) ta tc), .agg #[.int .i64 (fV m m.pc 0), .int .i64 (fV m m.pc 1), .int .i64 (fV m m.pc 2), .int .i64 (fV m m.pc 3)], .int .i64 m.pc] W (PlPost W ({ m with st := m.st + 1 }) ba ta s0 s1 s2 (plainM ({ m with st := m.st + 1 }) (fV m m.pc 0) (fV m m.pc 1) (fV m m.pc 2) (fV m m.pc 3) m.pc) (plainE ({ m with st := m.st + 1 }) (fV m m.pc 0) (fV m m.pc 1) (fV m m.pc 2) (fV m m.pc 3) m.pc))) := fun W hb => plain_any hTr ({ m with st := m.st + 1 }) ba bc s0 s1 s2 ta tc _ _ _ _ m.pc W b1 b2 b3 b4 b5 b6 hpc (by omega) ⟨hM.b0, hM.b1, hM.bl, hM.tl⟩ (hR.next hb) (hT.next hb) hop
  have HLD : Hid (∀ W, Calls Tryd.prog 24 #[.int .i64 (fV m m.pc 0)] W fun e w' => e = .returned (.bool false) ∧ W = w') := fun W => by
    have := HLE.out (fV m m.pc 0) W
    rw [hld] at this
    exact this
  have h27b : (fV m m.pc 0 == 27) = false := by simpa using h27
  obtain ⟨MM, hMM⟩ : ∃ x, x = plainM ({ m with st := m.st + 1 }) (fV m m.pc 0) (fV m m.pc 1) (fV m m.pc 2) (fV m m.pc 3) m.pc := ⟨_, rfl⟩
  obtain ⟨EE, hEE⟩ : ∃ x, x = plainE ({ m with st := m.st + 1 }) (fV m m.pc 0) (fV m m.pc 1) (fV m m.pc 2) (fV m m.pc 3) m.pc := ⟨_, rfl⟩
  rw [← hMM, ← hEE] at HPL
  rw [← hEE] at hE
  rw [← hMM]
  rw [hE] at HPL
  have HRW := Lib.hid hR
  have HTW := Lib.hid hT
  clear hDec hR hM he hop hT hTr hMM hEE HLE b1 b2 b3 b4 b5 b6 h27 hE hld
  generalize fV m m.pc 0 = d0 at *
  generalize fV m m.pc 1 = d1 at *
  generalize fV m m.pc 2 = d2 at *
  generalize fV m m.pc 3 = d3 at *
  go_enter Tryd.func8, Tryd.ntmps8
  go_wp2_with (first | (refine wpList_load_row rfl 29 _ rfl w.heap.size rfl 29 (mC (m) ba bc (.slice s0 s1 s2) ta tc) (0, 0) _ HS.out.b1 Tryd.underlying29 rfl (mSize _ _ _ _ _ _) ?_) | (go_at_call 23; refine HF.out.mono ?_; rintro e W1 ⟨rfl, hb1⟩; have HS1 := Lib.hid (HS.out.next hb1); clear hb1 c16 c17 c18 c23 f17 f18 f23; obtain ⟨c16, c17, c18, c23, f17, f18, f23⟩ := HS1.out.cells; have hlt1 := HS1.out.lt; have HS2 := Lib.hid ((HS1.out.stp (m.st + 1)).next (oalloc _ (.cells #[.int .i64 d0, .int .i64 d1, .int .i64 d2, .int .i64 d3] 45)))) | (go_at_call 24; refine (HLD.out _).mono ?_; rintro e w' ⟨rfl, rfl⟩) | (refine wpList_load_row rfl 29 _ rfl w.heap.size rfl 29 (mC ({ m with st := m.st + 1 }) ba bc (.slice s0 s1 s2) ta tc) (0, 0) _ HS2.out.b1 Tryd.underlying29 rfl (mSize _ _ _ _ _ _) ?_) | (go_at_call 25; refine (HPL.out _ HS2.out.bel).mono ?_; rintro e W4 ⟨ba', bc', ta', tc', rfl, hb4, hr4, ht4, hab, hat⟩; have HS4 := Lib.hid (HS2.out.next hb4); have HR4 := Lib.hid hr4; have HT4 := Lib.hid ht4; have HAB := Lib.hid hab; have HAT := Lib.hid hat; have HK4 := Lib.hid (blk_new W4 #[.int .i64 0, .int .i64 0, .int .i64 0, .int .i64 0, .int .i64 0, .int .i64 0, .int .i64 0, .int .i64 0, .int .i64 0, .int .i64 0, .int .i64 0, .int .i64 0, .int .i64 0, .int .i64 0, .int .i64 0, .int .i64 0, .bool false, .int .i64 0, .int .i64 0, .int .i64 0, .slice none 0 0, .slice none 0 0, .slice none 0 0, .int .i64 0] 29); have hlt4 := HS4.out.lt2; have HS5 := Lib.hid ((HS4.out.next (oalloc W4 (.cells #[.int .i64 0, .int .i64 0, .int .i64 0, .int .i64 0, .int .i64 0, .int .i64 0, .int .i64 0, .int .i64 0, .int .i64 0, .int .i64 0, .int .i64 0, .int .i64 0, .int .i64 0, .int .i64 0, .int .i64 0, .int .i64 0, .bool false, .int .i64 0, .int .i64 0, .int .i64 0, .slice none 0 0, .slice none 0 0, .slice none 0 0, .int .i64 0] 29))).row W4.heap.size hlt4 (mC MM ba' bc' (.slice s0 s1 s2) ta' tc')); have k5 := setRow_heap _ _ _ (mC MM ba' bc' (.slice s0 s1 s2) ta' tc') _ _ HK4.out; have HK5 := Lib.hid k5; have x17 : ((W4.alloc (.cells #[.int .i64 0, .int .i64 0, .int .i64 0, .int .i64 0, .int .i64 0, .int .i64 0, .int .i64 0, .int .i64 0, .int .i64 0, .int .i64 0, .int .i64 0, .int .i64 0, .int .i64 0, .int .i64 0, .int .i64 0, .int .i64 0, .bool false, .int .i64 0, .int .i64 0, .int .i64 0, .slice none 0 0, .slice none 0 0, .slice none 0 0, .int .i64 0] 29)).setRow W4.heap.size (mC MM ba' bc' (.slice s0 s1 s2) ta' tc')).cell? ⟨W4.heap.size, 17, none⟩ = some (.int .i64 MM.pc) := cell_of_block (i := 17) k5 rfl; have x17f := blk_froz (i := 17) k5; have y17 := HS5.out.cells.2.1; clear hb4 hr4 ht4 k5 hab hat; have HK6 := Lib.hid (mb_pc HK5.out (m.pc + 2)); have HS7 := Lib.hid (HS5.out.other W4.heap.size 17 hlt4 (.int .i64 (m.pc + 2)))) | (refine wpList_store_row rfl 29 _ _ rfl W4.heap.size (mC (MM) ba' bc' (.slice s0 s1 s2) ta' tc') rfl rfl 29 #[.int .i64 0, .int .i64 0, .int .i64 0, .int .i64 0, .int .i64 0, .int .i64 0, .int .i64 0, .int .i64 0, .int .i64 0, .int .i64 0, .int .i64 0, .int .i64 0, .int .i64 0, .int .i64 0, .int .i64 0, .int .i64 0, .bool false, .int .i64 0, .int .i64 0, .int .i64 0, .slice none 0 0, .slice none 0 0, .slice none 0 0, .int .i64 0] HK4.out (mSize _ _ _ _ _ _) rfl (mAll _ _ _ _ _ _ _ _) ?_) | (refine wpList_load_row rfl 29 _ rfl W4.heap.size rfl 29 (mC ({ MM with pc := m.pc + 2 }) ba' bc' (.slice s0 s1 s2) ta' tc') (0, 0) _ HK6.out Tryd.underlying29 rfl (mSize _ _ _ _ _ _) ?_) | (refine wpList_store_row rfl 29 _ _ rfl (w.heap.size + 1) (mC ({ MM with pc := m.pc + 2 }) ba' bc' (.slice s0 s1 s2) ta' tc') rfl rfl 29 zC HS7.out.b2 (mSize _ _ _ _ _ _) rfl (mAll _ _ _ _ _ _ _ _) ?_) | fail)
  refine bodyPost_ret (v := .tuple #[.agg (mC { MM with pc := m.pc + 2 } ba' bc' (.slice s0 s1 s2) ta' tc'), .bool false, .int .i64 0]) (res_s Tryd.results8 rfl rfl rfl (setRow_heap _ _ _ _ _ _ HS7.out.b2) (mSize _ _ _ _ _ _)) rfl ⟨_, _, _, _, rfl, below_setRow HS7.out.bel (by omega) _, fun h0 => ?_, fun h0 => ?_, ?_, ?_⟩
  · obtain ⟨b, off, e, hl, hc⟩ := HR4.out h0
    have hne : b ≠ w.heap.size + 1 := by
      rcases HAB.out with ⟨h1, h2⟩ | ⟨g, h1, h2⟩
      · rw [h2] at h0
        obtain ⟨b', off', e', hl', _⟩ := HRW.out h0
        rw [h1, e'] at e
        simp at e
        omega
      · rw [h1] at e
        simp at e
        have := HS1.out.lt2
        simp at h2
        omega
    exact ⟨b, off, e, by simp; omega, fun i hi => (fin_cell hl hne).trans (hc i hi)⟩
  · obtain ⟨b, off, e, hl, hc⟩ := HT4.out h0
    have hne : b ≠ w.heap.size + 1 := by
      rcases HAT.out with ⟨h1, h2⟩ | ⟨g, h1, h2⟩
      · rw [h2] at h0
        obtain ⟨b', off', e', hl', _⟩ := HTW.out h0
        rw [h1, e'] at e
        simp at e
        omega
      · rw [h1] at e
        simp at e
        have := HS1.out.lt2
        simp at h2
        omega
    exact ⟨b, off, e, by simp; omega, fun i hi => (fin_cell hl hne).trans (hc i hi)⟩
  · rcases HAB.out with ⟨h1, h2⟩ | ⟨g, h1, h2⟩
    · exact Or.inl ⟨h1, h2⟩
    · refine Or.inr ⟨g, h1, ?_⟩
      have := HS1.out.lt2
      simp at h2
      omega
  · rcases HAT.out with ⟨h1, h2⟩ | ⟨g, h1, h2⟩
    · exact Or.inl ⟨h1, h2⟩
    · refine Or.inr ⟨g, h1, ?_⟩
      have := HS1.out.lt2
      simp at h2
      omega

set_option maxRecDepth 100000 in
set_option maxHeartbeats 4000000 in
theorem step_plain_te (hDec : DecOk) (m : Ma) (ba : Option Addr) (bc : Nat) (s0 : Option Addr) (s1 s2 : Nat) (ta : Option Addr) (tc : Nat) (w : World) (hM : MOk m) (hp0 : -2147483648 ≤ m.pc) (hp1 : m.pc ≤ 4294967296) (hs0 : 0 ≤ m.st) (hs1 : m.st ≤ 1000000000) (hR : BRd w ba m.by') (hTr : TrapOk) (hT : TRd w ta m.told) (he : fetchE m m.pc = 0) (h27 : fV m m.pc 0 = 27) (h0 : fV m m.pc 3 ≠ 0) (hop : fV m m.pc 0 = 1 ∨ (3 ≤ fV m m.pc 0 ∧ fV m m.pc 0 ≤ 16) ∨ (23 ≤ fV m m.pc 0 ∧ fV m m.pc 0 ≤ 27)) (hpc : 0 ≤ m.pc) (hE : plainE ({ m with st := m.st + 1 }) (fV m m.pc 0) (fV m m.pc 1) (fV m m.pc 2) (fV m m.pc 3) m.pc ≠ 0) :
    Calls Tryd.prog 8 #[.agg (mC m ba bc (.slice s0 s1 s2) ta tc)] w fun e w' => e = .returned (.tuple #[.agg zC, .bool false, .int .i64 (plainE ({ m with st := m.st + 1 }) (fV m m.pc 0) (fV m m.pc 1) (fV m m.pc 2) (fV m m.pc 3) m.pc)]) ∧ Below w.heap.size w w' := by
  have HS : Hid (SB w m ba bc (.slice s0 s1 s2) ta tc ((w.alloc (.cells (mC m ba bc (.slice s0 s1 s2) ta tc) 29)).alloc (.cells #[.int .i64 0, .int .i64 0, .int .i64 0, .int .i64 0, .int .i64 0, .int .i64 0, .int .i64 0, .int .i64 0, .int .i64 0, .int .i64 0, .int .i64 0, .int .i64 0, .int .i64 0, .int .i64 0, .int .i64 0, .int .i64 0, .bool false, .int .i64 0, .int .i64 0, .int .i64 0, .slice none 0 0, .slice none 0 0, .slice none 0 0, .int .i64 0] 29))) := SB.start w m ba bc (.slice s0 s1 s2) ta tc _ rfl
  have HF := Lib.hid (fetch_any hDec m ba bc (.slice s0 s1 s2) ta tc m.pc ((w.alloc (.cells (mC m ba bc (.slice s0 s1 s2) ta tc) 29)).alloc (.cells #[.int .i64 0, .int .i64 0, .int .i64 0, .int .i64 0, .int .i64 0, .int .i64 0, .int .i64 0, .int .i64 0, .int .i64 0, .int .i64 0, .int .i64 0, .int .i64 0, .int .i64 0, .int .i64 0, .int .i64 0, .int .i64 0, .bool false, .int .i64 0, .int .i64 0, .int .i64 0, .slice none 0 0, .slice none 0 0, .slice none 0 0, .int .i64 0] 29)) (hR.next HS.out.bel) hM.b0 hM.b1 (by have := hM.bl; omega) (by omega) (by omega))
  have HNO := Lib.hid no_any
  have HLE := Lib.hid leads_any
  rw [he] at HF
  obtain ⟨c16, c17, c18, c23, f17, f18, f23⟩ := HS.out.cells
  obtain ⟨b1, b2, b3, b4, b5, b6⟩ := fV_bd m m.pc
  have HPL : Hid (∀ W, Below w.heap.size w W → Calls Tryd.prog 25 #[.agg (mC ({ m with st := m.st + 1 }) ba bc (.slice s0 s1 s2) ta tc), .agg #[.int .i64 (fV m m.pc 0), .int .i64 (fV m m.pc 1), .int .i64 (fV m m.pc 2), .int .i64 (fV m m.pc 3)], .int .i64 m.pc] W (PlPost W ({ m with st := m.st + 1 }) ba ta s0 s1 s2 (plainM ({ m with st := m.st + 1 }) (fV m m.pc 0) (fV m m.pc 1) (fV m m.pc 2) (fV m m.pc 3) m.pc) (plainE ({ m with st := m.st + 1 }) (fV m m.pc 0) (fV m m.pc 1) (fV m m.pc 2) (fV m m.pc 3) m.pc))) := fun W hb => plain_any hTr ({ m with st := m.st + 1 }) ba bc s0 s1 s2 ta tc _ _ _ _ m.pc W b1 b2 b3 b4 b5 b6 hpc (by omega) ⟨hM.b0, hM.b1, hM.bl, hM.tl⟩ (hR.next hb) (hT.next hb) hop
  have HLD : Hid (∀ W, Calls Tryd.prog 24 #[.int .i64 (fV m m.pc 0)] W fun e w' => e = .returned (.bool false) ∧ W = w') := fun W => by
    have := HLE.out (fV m m.pc 0) W
    rw [h27, show leadsB 27 = false from rfl] at this
    rw [h27]; exact this
  have h0b : (fV m m.pc 3 == 0) = false := by simpa using h0
  obtain ⟨MM, hMM⟩ : ∃ x, x = plainM ({ m with st := m.st + 1 }) (fV m m.pc 0) (fV m m.pc 1) (fV m m.pc 2) (fV m m.pc 3) m.pc := ⟨_, rfl⟩
  obtain ⟨EE, hEE⟩ : ∃ x, x = plainE ({ m with st := m.st + 1 }) (fV m m.pc 0) (fV m m.pc 1) (fV m m.pc 2) (fV m m.pc 3) m.pc := ⟨_, rfl⟩
  rw [← hMM, ← hEE] at HPL
  rw [← hEE] at hE
  rw [← hEE]
  have hEb : (EE != 0) = true := by simpa using hE
  rw [h27] at HPL HLD HF
  have HRW := Lib.hid hR
  have HTW := Lib.hid hT
  clear hDec hR hM he hop hT hTr hMM hEE HLE b1 b2 b3 b4 b5 b6 h27 hE h0
  generalize fV m m.pc 1 = d1 at *
  generalize fV m m.pc 2 = d2 at *
  generalize fV m m.pc 3 = d3 at *
  go_enter Tryd.func8, Tryd.ntmps8
  go_wp2_with (first | (refine wpList_load_row rfl 29 _ rfl w.heap.size rfl 29 (mC (m) ba bc (.slice s0 s1 s2) ta tc) (0, 0) _ HS.out.b1 Tryd.underlying29 rfl (mSize _ _ _ _ _ _) ?_) | (go_at_call 23; refine HF.out.mono ?_; rintro e W1 ⟨rfl, hb1⟩; have HS1 := Lib.hid (HS.out.next hb1); clear hb1 c16 c17 c18 c23 f17 f18 f23; obtain ⟨c16, c17, c18, c23, f17, f18, f23⟩ := HS1.out.cells; have hlt1 := HS1.out.lt; have HS2 := Lib.hid ((HS1.out.stp (m.st + 1)).next (oalloc _ (.cells #[.int .i64 27, .int .i64 d1, .int .i64 d2, .int .i64 d3] 45)))) | (go_at_call 24; refine (HLD.out _).mono ?_; rintro e w' ⟨rfl, rfl⟩) | (refine wpList_load_row rfl 29 _ rfl w.heap.size rfl 29 (mC ({ m with st := m.st + 1 }) ba bc (.slice s0 s1 s2) ta tc) (0, 0) _ HS2.out.b1 Tryd.underlying29 rfl (mSize _ _ _ _ _ _) ?_) | (go_at_call 25; refine (HPL.out _ HS2.out.bel).mono ?_; rintro e W4 ⟨ba', bc', ta', tc', rfl, hb4, hr4, ht4, hab, hat⟩; have HS4 := Lib.hid (HS2.out.next hb4); have HR4 := Lib.hid hr4; have HT4 := Lib.hid ht4; have HAB := Lib.hid hab; have HAT := Lib.hid hat; have HK4 := Lib.hid (blk_new W4 #[.int .i64 0, .int .i64 0, .int .i64 0, .int .i64 0, .int .i64 0, .int .i64 0, .int .i64 0, .int .i64 0, .int .i64 0, .int .i64 0, .int .i64 0, .int .i64 0, .int .i64 0, .int .i64 0, .int .i64 0, .int .i64 0, .bool false, .int .i64 0, .int .i64 0, .int .i64 0, .slice none 0 0, .slice none 0 0, .slice none 0 0, .int .i64 0] 29); have hlt4 := HS4.out.lt2; have HS5 := Lib.hid ((HS4.out.next (oalloc W4 (.cells #[.int .i64 0, .int .i64 0, .int .i64 0, .int .i64 0, .int .i64 0, .int .i64 0, .int .i64 0, .int .i64 0, .int .i64 0, .int .i64 0, .int .i64 0, .int .i64 0, .int .i64 0, .int .i64 0, .int .i64 0, .int .i64 0, .bool false, .int .i64 0, .int .i64 0, .int .i64 0, .slice none 0 0, .slice none 0 0, .slice none 0 0, .int .i64 0] 29))).row W4.heap.size hlt4 (mC MM ba' bc' (.slice s0 s1 s2) ta' tc')); have k5 := setRow_heap _ _ _ (mC MM ba' bc' (.slice s0 s1 s2) ta' tc') _ _ HK4.out; have HK5 := Lib.hid k5; have x17 : ((W4.alloc (.cells #[.int .i64 0, .int .i64 0, .int .i64 0, .int .i64 0, .int .i64 0, .int .i64 0, .int .i64 0, .int .i64 0, .int .i64 0, .int .i64 0, .int .i64 0, .int .i64 0, .int .i64 0, .int .i64 0, .int .i64 0, .int .i64 0, .bool false, .int .i64 0, .int .i64 0, .int .i64 0, .slice none 0 0, .slice none 0 0, .slice none 0 0, .int .i64 0] 29)).setRow W4.heap.size (mC MM ba' bc' (.slice s0 s1 s2) ta' tc')).cell? ⟨W4.heap.size, 17, none⟩ = some (.int .i64 MM.pc) := cell_of_block (i := 17) k5 rfl; have x17f := blk_froz (i := 17) k5; have y17 := HS5.out.cells.2.1; clear hb4 hr4 ht4 k5 hab hat; have HK6 := Lib.hid (mb_pc HK5.out (m.pc + 2)); have HS7 := Lib.hid (HS5.out.other W4.heap.size 17 hlt4 (.int .i64 (m.pc + 2)))) | (refine wpList_store_row rfl 29 _ _ rfl W4.heap.size (mC (MM) ba' bc' (.slice s0 s1 s2) ta' tc') rfl rfl 29 #[.int .i64 0, .int .i64 0, .int .i64 0, .int .i64 0, .int .i64 0, .int .i64 0, .int .i64 0, .int .i64 0, .int .i64 0, .int .i64 0, .int .i64 0, .int .i64 0, .int .i64 0, .int .i64 0, .int .i64 0, .int .i64 0, .bool false, .int .i64 0, .int .i64 0, .int .i64 0, .slice none 0 0, .slice none 0 0, .slice none 0 0, .int .i64 0] HK4.out (mSize _ _ _ _ _ _) rfl (mAll _ _ _ _ _ _ _ _) ?_) | (go_at_call 22; refine (HNO.out _ _).mono ?_; rintro e W6 ⟨rfl, hb6⟩; have HS6 := Lib.hid (HS5.out.next hb6); clear hb6) | (refine wpList_store_row rfl 29 _ _ rfl (w.heap.size + 1) zC rfl rfl 29 zC HS6.out.b2 zSize rfl zAll ?_) | fail)
  exact bodyPost_ret (v := .tuple #[.agg zC, .bool false, .int .i64 EE]) (res_s Tryd.results8 rfl rfl rfl (setRow_heap _ _ _ _ _ _ HS6.out.b2) zSize) rfl ⟨rfl, below_setRow HS6.out.bel (by omega) _⟩

set_option maxRecDepth 100000 in
set_option maxHeartbeats 4000000 in
theorem step_plain_t (hDec : DecOk) (m : Ma) (ba : Option Addr) (bc : Nat) (s0 : Option Addr) (s1 s2 : Nat) (ta : Option Addr) (tc : Nat) (w : World) (hM : MOk m) (hp0 : -2147483648 ≤ m.pc) (hp1 : m.pc ≤ 4294967296) (hs0 : 0 ≤ m.st) (hs1 : m.st ≤ 1000000000) (hR : BRd w ba m.by') (hTr : TrapOk) (hT : TRd w ta m.told) (he : fetchE m m.pc = 0) (h27 : fV m m.pc 0 = 27) (h0 : fV m m.pc 3 ≠ 0) (hop : fV m m.pc 0 = 1 ∨ (3 ≤ fV m m.pc 0 ∧ fV m m.pc 0 ≤ 16) ∨ (23 ≤ fV m m.pc 0 ∧ fV m m.pc 0 ≤ 27)) (hpc : 0 ≤ m.pc) (hE : plainE ({ m with st := m.st + 1 }) (fV m m.pc 0) (fV m m.pc 1) (fV m m.pc 2) (fV m m.pc 3) m.pc = 0) :
    Calls Tryd.prog 8 #[.agg (mC m ba bc (.slice s0 s1 s2) ta tc)] w fun e w' => ∃ ba' bc' ta' tc', e = .returned (.tuple #[.agg (mC { plainM ({ m with st := m.st + 1 }) (fV m m.pc 0) (fV m m.pc 1) (fV m m.pc 2) (fV m m.pc 3) m.pc with pc := m.pc + 2 } ba' bc' (.slice s0 s1 s2) ta' tc'), .bool false, .int .i64 0]) ∧ Below w.heap.size w w' ∧ BRd w' ba' (plainM ({ m with st := m.st + 1 }) (fV m m.pc 0) (fV m m.pc 1) (fV m m.pc 2) (fV m m.pc 3) m.pc).by' ∧ TRd w' ta' (plainM ({ m with st := m.st + 1 }) (fV m m.pc 0) (fV m m.pc 1) (fV m m.pc 2) (fV m m.pc 3) m.pc).told ∧ NearA w ba ba' m.by' (plainM ({ m with st := m.st + 1 }) (fV m m.pc 0) (fV m m.pc 1) (fV m m.pc 2) (fV m m.pc 3) m.pc).by' ∧ NearA w ta ta' m.told (plainM ({ m with st := m.st + 1 }) (fV m m.pc 0) (fV m m.pc 1) (fV m m.pc 2) (fV m m.pc 3) m.pc).told := by
  have HS : Hid (SB w m ba bc (.slice s0 s1 s2) ta tc ((w.alloc (.cells (mC m ba bc (.slice s0 s1 s2) ta tc) 29)).alloc (.cells #[.int .i64 0, .int .i64 0, .int .i64 0, .int .i64 0, .int .i64 0, .int .i64 0, .int .i64 0, .int .i64 0, .int .i64 0, .int .i64 0, .int .i64 0, .int .i64 0, .int .i64 0, .int .i64 0, .int .i64 0, .int .i64 0, .bool false, .int .i64 0, .int .i64 0, .int .i64 0, .slice none 0 0, .slice none 0 0, .slice none 0 0, .int .i64 0] 29))) := SB.start w m ba bc (.slice s0 s1 s2) ta tc _ rfl
  have HF := Lib.hid (fetch_any hDec m ba bc (.slice s0 s1 s2) ta tc m.pc ((w.alloc (.cells (mC m ba bc (.slice s0 s1 s2) ta tc) 29)).alloc (.cells #[.int .i64 0, .int .i64 0, .int .i64 0, .int .i64 0, .int .i64 0, .int .i64 0, .int .i64 0, .int .i64 0, .int .i64 0, .int .i64 0, .int .i64 0, .int .i64 0, .int .i64 0, .int .i64 0, .int .i64 0, .int .i64 0, .bool false, .int .i64 0, .int .i64 0, .int .i64 0, .slice none 0 0, .slice none 0 0, .slice none 0 0, .int .i64 0] 29)) (hR.next HS.out.bel) hM.b0 hM.b1 (by have := hM.bl; omega) (by omega) (by omega))
  have HNO := Lib.hid no_any
  have HLE := Lib.hid leads_any
  rw [he] at HF
  obtain ⟨c16, c17, c18, c23, f17, f18, f23⟩ := HS.out.cells
  obtain ⟨b1, b2, b3, b4, b5, b6⟩ := fV_bd m m.pc
  have HPL : Hid (∀ W, Below w.heap.size w W → Calls Tryd.prog 25 #[.agg (mC ({ m with st := m.st + 1 }) ba bc (.slice s0 s1 s2) ta tc), .agg #[.int .i64 (fV m m.pc 0), .int .i64 (fV m m.pc 1), .int .i64 (fV m m.pc 2), .int .i64 (fV m m.pc 3)], .int .i64 m.pc] W (PlPost W ({ m with st := m.st + 1 }) ba ta s0 s1 s2 (plainM ({ m with st := m.st + 1 }) (fV m m.pc 0) (fV m m.pc 1) (fV m m.pc 2) (fV m m.pc 3) m.pc) (plainE ({ m with st := m.st + 1 }) (fV m m.pc 0) (fV m m.pc 1) (fV m m.pc 2) (fV m m.pc 3) m.pc))) := fun W hb => plain_any hTr ({ m with st := m.st + 1 }) ba bc s0 s1 s2 ta tc _ _ _ _ m.pc W b1 b2 b3 b4 b5 b6 hpc (by omega) ⟨hM.b0, hM.b1, hM.bl, hM.tl⟩ (hR.next hb) (hT.next hb) hop
  have HLD : Hid (∀ W, Calls Tryd.prog 24 #[.int .i64 (fV m m.pc 0)] W fun e w' => e = .returned (.bool false) ∧ W = w') := fun W => by
    have := HLE.out (fV m m.pc 0) W
    rw [h27, show leadsB 27 = false from rfl] at this
    rw [h27]; exact this
  have h0b : (fV m m.pc 3 == 0) = false := by simpa using h0
  obtain ⟨MM, hMM⟩ : ∃ x, x = plainM ({ m with st := m.st + 1 }) (fV m m.pc 0) (fV m m.pc 1) (fV m m.pc 2) (fV m m.pc 3) m.pc := ⟨_, rfl⟩
  obtain ⟨EE, hEE⟩ : ∃ x, x = plainE ({ m with st := m.st + 1 }) (fV m m.pc 0) (fV m m.pc 1) (fV m m.pc 2) (fV m m.pc 3) m.pc := ⟨_, rfl⟩
  rw [← hMM, ← hEE] at HPL
  rw [← hEE] at hE
  rw [← hMM]
  rw [hE] at HPL
  rw [h27] at HPL HLD HF
  have HRW := Lib.hid hR
  have HTW := Lib.hid hT
  clear hDec hR hM he hop hT hTr hMM hEE HLE b1 b2 b3 b4 b5 b6 h27 hE h0
  generalize fV m m.pc 1 = d1 at *
  generalize fV m m.pc 2 = d2 at *
  generalize fV m m.pc 3 = d3 at *
  go_enter Tryd.func8, Tryd.ntmps8
  go_wp2_with (first | (refine wpList_load_row rfl 29 _ rfl w.heap.size rfl 29 (mC (m) ba bc (.slice s0 s1 s2) ta tc) (0, 0) _ HS.out.b1 Tryd.underlying29 rfl (mSize _ _ _ _ _ _) ?_) | (go_at_call 23; refine HF.out.mono ?_; rintro e W1 ⟨rfl, hb1⟩; have HS1 := Lib.hid (HS.out.next hb1); clear hb1 c16 c17 c18 c23 f17 f18 f23; obtain ⟨c16, c17, c18, c23, f17, f18, f23⟩ := HS1.out.cells; have hlt1 := HS1.out.lt; have HS2 := Lib.hid ((HS1.out.stp (m.st + 1)).next (oalloc _ (.cells #[.int .i64 27, .int .i64 d1, .int .i64 d2, .int .i64 d3] 45)))) | (go_at_call 24; refine (HLD.out _).mono ?_; rintro e w' ⟨rfl, rfl⟩) | (refine wpList_load_row rfl 29 _ rfl w.heap.size rfl 29 (mC ({ m with st := m.st + 1 }) ba bc (.slice s0 s1 s2) ta tc) (0, 0) _ HS2.out.b1 Tryd.underlying29 rfl (mSize _ _ _ _ _ _) ?_) | (go_at_call 25; refine (HPL.out _ HS2.out.bel).mono ?_; rintro e W4 ⟨ba', bc', ta', tc', rfl, hb4, hr4, ht4, hab, hat⟩; have HS4 := Lib.hid (HS2.out.next hb4); have HR4 := Lib.hid hr4; have HT4 := Lib.hid ht4; have HAB := Lib.hid hab; have HAT := Lib.hid hat; have HK4 := Lib.hid (blk_new W4 #[.int .i64 0, .int .i64 0, .int .i64 0, .int .i64 0, .int .i64 0, .int .i64 0, .int .i64 0, .int .i64 0, .int .i64 0, .int .i64 0, .int .i64 0, .int .i64 0, .int .i64 0, .int .i64 0, .int .i64 0, .int .i64 0, .bool false, .int .i64 0, .int .i64 0, .int .i64 0, .slice none 0 0, .slice none 0 0, .slice none 0 0, .int .i64 0] 29); have hlt4 := HS4.out.lt2; have HS5 := Lib.hid ((HS4.out.next (oalloc W4 (.cells #[.int .i64 0, .int .i64 0, .int .i64 0, .int .i64 0, .int .i64 0, .int .i64 0, .int .i64 0, .int .i64 0, .int .i64 0, .int .i64 0, .int .i64 0, .int .i64 0, .int .i64 0, .int .i64 0, .int .i64 0, .int .i64 0, .bool false, .int .i64 0, .int .i64 0, .int .i64 0, .slice none 0 0, .slice none 0 0, .slice none 0 0, .int .i64 0] 29))).row W4.heap.size hlt4 (mC MM ba' bc' (.slice s0 s1 s2) ta' tc')); have k5 := setRow_heap _ _ _ (mC MM ba' bc' (.slice s0 s1 s2) ta' tc') _ _ HK4.out; have HK5 := Lib.hid k5; have x17 : ((W4.alloc (.cells #[.int .i64 0, .int .i64 0, .int .i64 0, .int .i64 0, .int .i64 0, .int .i64 0, .int .i64 0, .int .i64 0, .int .i64 0, .int .i64 0, .int .i64 0, .int .i64 0, .int .i64 0, .int .i64 0, .int .i64 0, .int .i64 0, .bool false, .int .i64 0, .int .i64 0, .int .i64 0, .slice none 0 0, .slice none 0 0, .slice none 0 0, .int .i64 0] 29)).setRow W4.heap.size (mC MM ba' bc' (.slice s0 s1 s2) ta' tc')).cell? ⟨W4.heap.size, 17, none⟩ = some (.int .i64 MM.pc) := cell_of_block (i := 17) k5 rfl; have x17f := blk_froz (i := 17) k5; have y17 := HS5.out.cells.2.1; clear hb4 hr4 ht4 k5 hab hat; have HK6 := Lib.hid (mb_pc HK5.out (m.pc + 2)); have HS7 := Lib.hid (HS5.out.other W4.heap.size 17 hlt4 (.int .i64 (m.pc + 2)))) | (refine wpList_store_row rfl 29 _ _ rfl W4.heap.size (mC (MM) ba' bc' (.slice s0 s1 s2) ta' tc') rfl rfl 29 #[.int .i64 0, .int .i64 0, .int .i64 0, .int .i64 0, .int .i64 0, .int .i64 0, .int .i64 0, .int .i64 0, .int .i64 0, .int .i64 0, .int .i64 0, .int .i64 0, .int .i64 0, .int .i64 0, .int .i64 0, .int .i64 0, .bool false, .int .i64 0, .int .i64 0, .int .i64 0, .slice none 0 0, .slice none 0 0, .slice none 0 0, .int .i64 0] HK4.out (mSize _ _ _ _ _ _) rfl (mAll _ _ _ _ _ _ _ _) ?_) | (refine wpList_load_row rfl 29 _ rfl W4.heap.size rfl 29 (mC ({ MM with pc := m.pc + 2 }) ba' bc' (.slice s0 s1 s2) ta' tc') (0, 0) _ HK6.out Tryd.underlying29 rfl (mSize _ _ _ _ _ _) ?_) | (refine wpList_store_row rfl 29 _ _ rfl (w.heap.size + 1) (mC ({ MM with pc := m.pc + 2 }) ba' bc' (.slice s0 s1 s2) ta' tc') rfl rfl 29 zC HS7.out.b2 (mSize _ _ _ _ _ _) rfl (mAll _ _ _ _ _ _ _ _) ?_) | fail)
  refine bodyPost_ret (v := .tuple #[.agg (mC { MM with pc := m.pc + 2 } ba' bc' (.slice s0 s1 s2) ta' tc'), .bool false, .int .i64 0]) (res_s Tryd.results8 rfl rfl rfl (setRow_heap _ _ _ _ _ _ HS7.out.b2) (mSize _ _ _ _ _ _)) rfl ⟨_, _, _, _, rfl, below_setRow HS7.out.bel (by omega) _, fun h0 => ?_, fun h0 => ?_, ?_, ?_⟩
  · obtain ⟨b, off, e, hl, hc⟩ := HR4.out h0
    have hne : b ≠ w.heap.size + 1 := by
      rcases HAB.out with ⟨h1, h2⟩ | ⟨g, h1, h2⟩
      · rw [h2] at h0
        obtain ⟨b', off', e', hl', _⟩ := HRW.out h0
        rw [h1, e'] at e
        simp at e
        omega
      · rw [h1] at e
        simp at e
        have := HS1.out.lt2
        simp at h2
        omega
    exact ⟨b, off, e, by simp; omega, fun i hi => (fin_cell hl hne).trans (hc i hi)⟩
  · obtain ⟨b, off, e, hl, hc⟩ := HT4.out h0
    have hne : b ≠ w.heap.size + 1 := by
      rcases HAT.out with ⟨h1, h2⟩ | ⟨g, h1, h2⟩
      · rw [h2] at h0
        obtain ⟨b', off', e', hl', _⟩ := HTW.out h0
        rw [h1, e'] at e
        simp at e
        omega
      · rw [h1] at e
        simp at e
        have := HS1.out.lt2
        simp at h2
        omega
    exact ⟨b, off, e, by simp; omega, fun i hi => (fin_cell hl hne).trans (hc i hi)⟩
  · rcases HAB.out with ⟨h1, h2⟩ | ⟨g, h1, h2⟩
    · exact Or.inl ⟨h1, h2⟩
    · refine Or.inr ⟨g, h1, ?_⟩
      have := HS1.out.lt2
      simp at h2
      omega
  · rcases HAT.out with ⟨h1, h2⟩ | ⟨g, h1, h2⟩
    · exact Or.inl ⟨h1, h2⟩
    · refine Or.inr ⟨g, h1, ?_⟩
      have := HS1.out.lt2
      simp at h2
      omega

end Go.Proofs.YtabepbaldadmgaaDoor
