/- The document's own Step: its parts. -/
import Derived.Test.YtabepbaldadmgaaDoorSmH
namespace Go.Proofs.YtabepbaldadmgaaDoor
open Go.RowKit Isa

def zC : Array Value := mC zeroM none 0 (.slice none 0 0) none 0
theorem zSize : (Tryd.prog.info? 29).map (·.size) = some zC.size := by kernel_rfl
theorem zAll : zC.all (·.oneCell') = true := by kernel_rfl
theorem zOld (m : Ma) (ba : Option Addr) (bc : Nat) (sv : Value) (ta : Option Addr) (tc : Nat) : zC.size = (mC m ba bc sv ta tc).size := rfl

theorem res_s {fn : Func} (hr : fn.results = #[.cell 2 29, .tmp 3, .tmp 4]) {T : Array Value} {W : World} {g : Nat} {b : Bool} {e : Int} {c : Array Value} (h2 : T.getD 2 undef = .pointer (some ⟨g, 0, none⟩)) (h3 : T.getD 3 undef = .bool b) (h4 : T.getD 4 undef = .int .i64 e) (hg : W.heap[g]? = some (.cells c 29 (0, 0))) (hs : (Tryd.prog.info? 29).map (·.size) = some c.size) :
    (results fn T).run Tryd.prog W = .ok (.tuple #[.agg c, .bool b, .int .i64 e]) W := by
  have hl := run_loadVar_row (P := Tryd.prog) W g 29 29 c (0, 0) _ hg Tryd.underlying29 rfl hs
  have h2' : T[2]?.getD undef = .pointer (some ⟨g, 0, none⟩) := by simpa using h2
  have h3' : T[3]?.getD undef = .bool b := by simpa using h3
  have h4' : T[4]?.getD undef = .int .i64 e := by simpa using h4
  simp [results, hr, h2', h3', h4', asAddr, hl]

theorem zLit : zC = #[.int .i64 0, .int .i64 0, .int .i64 0, .int .i64 0, .int .i64 0, .int .i64 0, .int .i64 0, .int .i64 0, .int .i64 0, .int .i64 0, .int .i64 0, .int .i64 0, .int .i64 0, .int .i64 0, .int .i64 0, .int .i64 0, .bool false, .int .i64 0, .int .i64 0, .int .i64 0, .slice none 0 0, .slice none 0 0, .slice none 0 0, .int .i64 0] := rfl
set_option maxRecDepth 100000 in
theorem no_any (e : Int) (w : World) : Calls Tryd.prog 22 #[.int .i64 e] w fun en w' => en = .returned (.tuple #[.agg zC, .bool false, .int .i64 e]) ∧ Below w.heap.size w w' := by
  have HB := Lib.hid (oalloc w (.cells zC 29))
  have HK := Lib.hid (blk_new w zC 29)
  rw [zLit] at HB HK
  go_enter Tryd.func22, Tryd.ntmps22
  go_wp2_with (first | (refine wpList_store_row rfl 29 _ _ rfl w.heap.size #[.int .i64 0, .int .i64 0, .int .i64 0, .int .i64 0, .int .i64 0, .int .i64 0, .int .i64 0, .int .i64 0, .int .i64 0, .int .i64 0, .int .i64 0, .int .i64 0, .int .i64 0, .int .i64 0, .int .i64 0, .int .i64 0, .bool false, .int .i64 0, .int .i64 0, .int .i64 0, .slice none 0 0, .slice none 0 0, .slice none 0 0, .int .i64 0] rfl rfl 29 #[.int .i64 0, .int .i64 0, .int .i64 0, .int .i64 0, .int .i64 0, .int .i64 0, .int .i64 0, .int .i64 0, .int .i64 0, .int .i64 0, .int .i64 0, .int .i64 0, .int .i64 0, .int .i64 0, .int .i64 0, .int .i64 0, .bool false, .int .i64 0, .int .i64 0, .int .i64 0, .slice none 0 0, .slice none 0 0, .slice none 0 0, .int .i64 0] HK.out zSize rfl zAll ?_) | fail)
  exact bodyPost_ret (v := .tuple #[.agg zC, .bool false, .int .i64 e]) (res_s Tryd.results22 rfl rfl rfl (setRow_heap _ _ _ _ _ _ HK.out) zSize) rfl ⟨rfl, below_setRow HB.out (Nat.le_refl _) _⟩

/-- The boxes of Step: the machine at w.heap.size, the answer behind it. -/
structure SB (w : World) (M : Ma) (ba : Option Addr) (bc : Nat) (sv : Value) (ta : Option Addr) (tc : Nat) (W : World) : Prop where
  bel : Below w.heap.size w W
  b1 : W.heap[w.heap.size]? = some (.cells (mC M ba bc sv ta tc) 29 (0, 0))
  b2 : W.heap[w.heap.size + 1]? = some (.cells zC 29 (0, 0))
theorem SB.next {w : World} {M : Ma} {ba : Option Addr} {bc : Nat} {sv : Value} {ta : Option Addr} {tc : Nat} {W W' : World} (h : SB w M ba bc sv ta tc W) (hb : Below W.heap.size W W') : SB w M ba bc sv ta tc W' :=
  ⟨h.bel.trans (hb.mono h.bel.size), (hb.block _ (Array.getElem?_eq_some_iff.1 h.b1).1).trans h.b1, (hb.block _ (Array.getElem?_eq_some_iff.1 h.b2).1).trans h.b2⟩
theorem SB.start (w : World) (M : Ma) (ba : Option Addr) (bc : Nat) (sv : Value) (ta : Option Addr) (tc : Nat) (V : World) (hV : V = (w.alloc (.cells (mC M ba bc sv ta tc) 29)).alloc (.cells zC 29)) : SB w M ba bc sv ta tc V := by
  subst hV
  refine ⟨(oalloc _ _).trans ((oalloc _ _).mono (by simp)), ?_, ?_⟩
  · rw [(oalloc _ _).block _ (by simp)]
    exact blk_new _ _ _
  · have := blk_new (w.alloc (.cells (mC M ba bc sv ta tc) 29)) zC 29
    simpa using this
theorem SB.cells {w : World} {M : Ma} {ba : Option Addr} {bc : Nat} {sv : Value} {ta : Option Addr} {tc : Nat} {W : World} (h : SB w M ba bc sv ta tc W) : W.cell? ⟨w.heap.size, 16, none⟩ = some (.bool M.t) ∧ W.cell? ⟨w.heap.size, 17, none⟩ = some (.int .i64 M.pc) ∧ W.cell? ⟨w.heap.size, 18, none⟩ = some (.int .i64 M.pr) ∧ W.cell? ⟨w.heap.size, 23, none⟩ = some (.int .i64 M.st) ∧ W.frozen? ⟨w.heap.size, 17, none⟩ = false ∧ W.frozen? ⟨w.heap.size, 18, none⟩ = false ∧ W.frozen? ⟨w.heap.size, 23, none⟩ = false :=
  ⟨cell_of_block (i := 16) h.b1 rfl, cell_of_block (i := 17) h.b1 rfl, cell_of_block (i := 18) h.b1 rfl, cell_of_block (i := 23) h.b1 rfl, blk_froz h.b1, blk_froz h.b1, blk_froz h.b1⟩

set_option maxRecDepth 100000 in
set_option maxHeartbeats 4000000 in
/-- No instruction is there. -/
theorem step_none (hDec : DecOk) (m : Ma) (ba : Option Addr) (bc : Nat) (s0 : Option Addr) (s1 s2 : Nat) (ta : Option Addr) (tc : Nat) (w : World) (hM : MOk m) (hp0 : -2147483648 ≤ m.pc) (hp1 : m.pc ≤ 4294967296) (hR : BRd w ba m.by') (he : fetchE m m.pc ≠ 0) :
    Calls Tryd.prog 8 #[.agg (mC m ba bc (.slice s0 s1 s2) ta tc)] w fun e w' => e = .returned (.tuple #[.agg zC, .bool false, .int .i64 (fetchE m m.pc)]) ∧ Below w.heap.size w w' := by
  have HS : Hid (SB w m ba bc (.slice s0 s1 s2) ta tc ((w.alloc (.cells (mC m ba bc (.slice s0 s1 s2) ta tc) 29)).alloc (.cells #[.int .i64 0, .int .i64 0, .int .i64 0, .int .i64 0, .int .i64 0, .int .i64 0, .int .i64 0, .int .i64 0, .int .i64 0, .int .i64 0, .int .i64 0, .int .i64 0, .int .i64 0, .int .i64 0, .int .i64 0, .int .i64 0, .bool false, .int .i64 0, .int .i64 0, .int .i64 0, .slice none 0 0, .slice none 0 0, .slice none 0 0, .int .i64 0] 29))) := SB.start w m ba bc (.slice s0 s1 s2) ta tc _ rfl
  have HF := Lib.hid (fetch_any hDec m ba bc (.slice s0 s1 s2) ta tc m.pc ((w.alloc (.cells (mC m ba bc (.slice s0 s1 s2) ta tc) 29)).alloc (.cells #[.int .i64 0, .int .i64 0, .int .i64 0, .int .i64 0, .int .i64 0, .int .i64 0, .int .i64 0, .int .i64 0, .int .i64 0, .int .i64 0, .int .i64 0, .int .i64 0, .int .i64 0, .int .i64 0, .int .i64 0, .int .i64 0, .bool false, .int .i64 0, .int .i64 0, .int .i64 0, .slice none 0 0, .slice none 0 0, .slice none 0 0, .int .i64 0] 29)) (hR.next HS.out.bel) hM.b0 hM.b1 (by have := hM.bl; omega) (by omega) (by omega))
  have HNO := Lib.hid no_any
  have heb : (fetchE m m.pc != 0) = true := by simpa using he
  obtain ⟨c16, c17, c18, c23, f17, f18, f23⟩ := HS.out.cells
  clear hDec hR hM he
  generalize fetchE m m.pc = ee at *
  generalize fV m m.pc 0 = d0 at *
  generalize fV m m.pc 1 = d1 at *
  generalize fV m m.pc 2 = d2 at *
  generalize fV m m.pc 3 = d3 at *
  go_enter Tryd.func8, Tryd.ntmps8
  go_wp2_with (first | (refine wpList_load_row rfl 29 _ rfl w.heap.size rfl 29 (mC m ba bc (.slice s0 s1 s2) ta tc) (0, 0) _ HS.out.b1 Tryd.underlying29 rfl (mSize _ _ _ _ _ _) ?_) | (go_at_call 23; refine HF.out.mono ?_; rintro e W1 ⟨rfl, hb1⟩; have HS1 := Lib.hid (HS.out.next hb1); clear hb1) | (go_at_call 22; refine (HNO.out _ _).mono ?_; rintro e W2 ⟨rfl, hb2⟩; have HS2 := Lib.hid ((HS1.out.next (oalloc _ _)).next hb2); clear hb2) | (refine wpList_store_row rfl 29 _ _ rfl (w.heap.size + 1) zC rfl rfl 29 zC HS2.out.b2 zSize rfl zAll ?_) | fail)
  exact bodyPost_ret (v := .tuple #[.agg zC, .bool false, .int .i64 ee]) (res_s Tryd.results8 rfl rfl rfl (setRow_heap _ _ _ _ _ _ HS2.out.b2) zSize) rfl ⟨rfl, below_setRow HS2.out.bel (by omega) _⟩

end Go.Proofs.YtabepbaldadmgaaDoor
