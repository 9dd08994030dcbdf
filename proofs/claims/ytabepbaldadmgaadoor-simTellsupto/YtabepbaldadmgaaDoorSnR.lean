/- The program's own sim: New. -/
import Derived.Test.YtabepbaldadmgaaDoorSnQ
namespace Go.Proofs.YtabepbaldadmgaaDoor
open Go.RowKit Isa

/-- A row stored, as a step of a region that draws. -/
theorem step_store_row {P : Program} {ops : Array Oper} {o : Oper} {a : Act} {w : World} {K : Act → World → Prop} {Q : Exit → Act → World → Prop} {E : Prop} (hgd : o.guard = none) (hd : o.dst = none) (ty : TypeId) (p x : Operand) (ho : o.op = .store ty p x) (g : Nat) (c : Array Value) (hp : a.eval p = .pointer (some ⟨g, 0, none⟩)) (hx : a.eval x = .agg c) (t : TypeId) (old : Array Value) (hg : w.heap[g]? = some (.cells old t (0, 0))) (hs : (P.info? ty).map (·.size) = some c.size) (hsz : old.size = c.size) (h1 : c.all (·.oneCell') = true)
    (h : K a (w.setRow g c)) : if Region.wanted o (yielded ops a.tmps) = true then Oper.wp P o a w K Q else E := by
  have hw : Region.wanted o (yielded ops a.tmps) = true := by simp [Region.wanted, hgd]
  rw [if_pos hw]
  exact wp_store_row ty p x ho g c hp hx t old hg hs hsz h1 (by rw [hd]; exact h)

set_option maxHeartbeats 8000000 in
set_option maxRecDepth 100000 in
theorem pnew_any (base : Int) (l : List UInt8) (ba : Option Addr) (bc : Nat) (sy : List Sy) (s0 : Option Addr) (s2 : Nat) (w : World) (hB : BRd w ba l) (hS : SrcOf w s0 sy.length (scells sy)) (hl : l.length * 1 ≤ 140737488355328) (hsl : sy.length * 24 ≤ 140737488355328) :
    Calls Tryd.prog 11 #[.agg #[.int .i64 base, .slice ba l.length bc, .slice s0 sy.length s2]] w fun e w' => ∃ gb gs, e = .returned (.agg (mC (newM base l) (some ⟨gb, 0, none⟩) l.length (.slice (some ⟨gs, 0, none⟩) sy.length sy.length) none 0)) ∧ Below w.heap.size w w' ∧ w.heap.size ≤ gb ∧ w.heap.size ≤ gs ∧ w'.heap[gb]? = some (.cells (mcells l).toArray 5 (0, 0)) ∧ w'.heap[gs]? = some (.cells (scells sy).toArray 61 (0, 0)) := by
  obtain ⟨V, hV⟩ : ∃ V, V = (w.alloc (.cells #[.int .i64 base, .slice ba l.length bc, .slice s0 sy.length s2] 26)).alloc (.cells #[.int .i64 0, .int .i64 0, .int .i64 0, .int .i64 0, .int .i64 0, .int .i64 0, .int .i64 0, .int .i64 0, .int .i64 0, .int .i64 0, .int .i64 0, .int .i64 0, .int .i64 0, .int .i64 0, .int .i64 0, .int .i64 0, .bool false, .int .i64 0, .int .i64 0, .int .i64 0, .slice none 0 0, .slice none 0 0, .slice none 0 0, .int .i64 0] 29) := ⟨_, rfl⟩
  have hV0 : Below w.heap.size w V := by rw [hV]; exact (oalloc _ _).trans ((oalloc _ _).mono (by simp))
  have hV1 : V.heap[w.heap.size]? = some (.cells #[.int .i64 base, .slice ba l.length bc, .slice s0 sy.length s2] 26 (0, 0)) := by rw [hV, (oalloc _ _).block _ (by simp)]; exact blk_new _ _ _
  have hV2 : V.heap[w.heap.size + 1]? = some (.cells #[.int .i64 0, .int .i64 0, .int .i64 0, .int .i64 0, .int .i64 0, .int .i64 0, .int .i64 0, .int .i64 0, .int .i64 0, .int .i64 0, .int .i64 0, .int .i64 0, .int .i64 0, .int .i64 0, .int .i64 0, .int .i64 0, .bool false, .int .i64 0, .int .i64 0, .int .i64 0, .slice none 0 0, .slice none 0 0, .slice none 0 0, .int .i64 0] 29 (0, 0)) := by
    rw [hV]
    have := blk_new (w.alloc (.cells #[.int .i64 base, .slice ba l.length bc, .slice s0 sy.length s2] 26)) #[.int .i64 0, .int .i64 0, .int .i64 0, .int .i64 0, .int .i64 0, .int .i64 0, .int .i64 0, .int .i64 0, .int .i64 0, .int .i64 0, .int .i64 0, .int .i64 0, .int .i64 0, .int .i64 0, .int .i64 0, .int .i64 0, .bool false, .int .i64 0, .int .i64 0, .int .i64 0, .slice none 0 0, .slice none 0 0, .slice none 0 0, .int .i64 0] 29
    simpa using this
  have HV := Lib.hid hV.symm
  have BX0 : Hid (V.drew.heap[w.heap.size]? = some (.cells #[.int .i64 base, .slice ba l.length bc, .slice s0 sy.length s2] 26 (0, 0))) := hV1
  have BZ0 : Hid (V.drew.heap[w.heap.size + 1]? = some (.cells #[.int .i64 0, .int .i64 0, .int .i64 0, .int .i64 0, .int .i64 0, .int .i64 0, .int .i64 0, .int .i64 0, .int .i64 0, .int .i64 0, .int .i64 0, .int .i64 0, .int .i64 0, .int .i64 0, .int .i64 0, .int .i64 0, .bool false, .int .i64 0, .int .i64 0, .int .i64 0, .slice none 0 0, .slice none 0 0, .slice none 0 0, .int .i64 0] 29 (0, 0))) := hV2
  have BE0 := Lib.hid hV0.drew
  have HIM : Hid (∀ X, Below w.heap.size w X → Calls Tryd.prog 14 #[.agg #[.int .i64 base, .slice ba l.length bc, .slice s0 sy.length s2]] X fun e w' => ∃ gb gs, e = .returned (.agg #[.int .i64 base, .slice (some ⟨gb, 0, none⟩) l.length l.length, .slice (some ⟨gs, 0, none⟩) sy.length sy.length]) ∧ Below X.heap.size X w' ∧ X.heap.size ≤ gb ∧ X.heap.size ≤ gs ∧ w'.heap[gb]? = some (.cells (mcells l).toArray 5 (0, 0)) ∧ w'.heap[gs]? = some (.cells (scells sy).toArray 61 (0, 0))) := fun X hX => pimage_any base l ba bc sy s0 s2 X (hB.next hX) (hS.below hX (Nat.le_refl _)) hl hsl
  clear hV hV0 hV1 hV2 hB hS
  go_enter Tryd.func11, Tryd.ntmps11
  go_upto_region 1 with fail
  rw [HV.out]
  clear HV
  refine wp_region_noPanic ?_
  refine wp_region_held_drew (S := fun _ => True) (by kernel_rfl) trivial (fun hHeld => ?_)
  generalize V.drew = V0 at *
  refine take_at 0 3 (v := ?_) rfl rfl (by kernel_rfl) (by kernel_rfl) (by kernel_rfl) (fun _ _ _ h => h) rfl ?_ hHeld ?_
  rotate_left
  · intro w hSw
    go_simp
    try with_reducible rfl
  simp only [List.setIfInBounds_toArray, List.set_cons_zero, List.set_cons_succ]
  refine wpAnyH_ready (rs := [1, 2]) (by kernel_rfl) (by simp) ?_
  refine AllReadyH.cons rfl (fun K hK => ?_) (AllReadyH.cons rfl (fun K hK => ?_) AllReadyH.nil)
  · have x := cell_of_block (i := 0) BX0.out rfl
    go_simp
    refine hK.out _ _ trivial (fun hHeld => ?_)
    clear hK K x
    refine wpAnyH_ready (rs := [2]) (by kernel_rfl) (by simp) ?_
    refine AllReadyH.cons rfl (fun K hK => ?_) AllReadyH.nil
    have x0 := cell_of_block (i := 0) BX0.out rfl
    have x1 := cell_of_block (i := 1) BX0.out rfl
    have x2 := cell_of_block (i := 2) BX0.out rfl
    go_simp
    refine hK.out _ _ trivial (fun hHeld => ?_)
    clear hK K x0 x1 x2
    refine wpAnyH_ready (rs := [3]) (by kernel_rfl) (by simp) ?_
    refine AllReadyH.cons rfl (fun K hK => ?_) AllReadyH.nil
    go_simp
    refine (HIM.out V0 BE0.out).mono ?_
    rintro e V1 ⟨gb, gs, rfl, hb, hgb, hgs, hrb, hrs⟩
    have BX1 := Lib.hid ((hb.block _ (Array.getElem?_eq_some_iff.1 BX0.out).1).trans BX0.out)
    have BZ1 := Lib.hid ((hb.block _ (Array.getElem?_eq_some_iff.1 BZ0.out).1).trans BZ0.out)
    have RB1 := Lib.hid hrb
    have RS1 := Lib.hid hrs
    have BE1 := Lib.hid (BE0.out.trans (hb.mono BE0.out.size))
    have hz0 := (Array.getElem?_eq_some_iff.1 BZ0.out).1
    refine hK.out _ _ trivial (fun hHeld => ?_)
    clear hK K hb hrb hrs BX0 BZ0 BE0
    refine wpAnyH_ready (rs := [4]) (by kernel_rfl) (by simp) ?_
    refine AllReadyH.cons rfl (fun K hK => ?_) AllReadyH.nil
    go_simp
    refine hK.out _ _ trivial (fun hHeld => ?_)
    clear hK K
    refine wpAnyH_ready (rs := [5]) (by kernel_rfl) (by simp) ?_
    refine AllReadyH.cons rfl (fun K hK => ?_) AllReadyH.nil
    refine step_store_row (by rfl) (by rfl) 29 (.tmp 2) (.tmp 7) (by rfl) (w.heap.size + 1) (mC (newM base l) (some ⟨gb, 0, none⟩) l.length (.slice (some ⟨gs, 0, none⟩) sy.length sy.length) none 0) (by rfl) (by rfl) 29 #[.int .i64 0, .int .i64 0, .int .i64 0, .int .i64 0, .int .i64 0, .int .i64 0, .int .i64 0, .int .i64 0, .int .i64 0, .int .i64 0, .int .i64 0, .int .i64 0, .int .i64 0, .int .i64 0, .int .i64 0, .int .i64 0, .bool false, .int .i64 0, .int .i64 0, .int .i64 0, .slice none 0 0, .slice none 0 0, .slice none 0 0, .int .i64 0] BZ1.out (mSize _ _ _ _ _ _) rfl (mAll _ _ _ _ _ _ _ _) ?_
    refine hK.out _ _ trivial (fun hHeld => ?_)
    clear hK K
    refine wpAnyH_done (by kernel_rfl) ?_ _
    refine NoPanic.normal ?_
    go_wp2
    refine bodyPost_ret (v := .agg (mC (newM base l) (some ⟨gb, 0, none⟩) l.length (.slice (some ⟨gs, 0, none⟩) sy.length sy.length) none 0)) (res_1 Tryd.results11 rfl (setRow_heap _ _ _ _ _ _ BZ1.out) (mSize _ _ _ _ _ _)) rfl ⟨gb, gs, rfl, below_setRow BE1.out (by omega) _, by omega, by omega, ?_, ?_⟩
    · rw [setRow_other _ _ _ _ (by omega)]; exact RB1.out
    · rw [setRow_other _ _ _ _ (by omega)]; exact RS1.out
  · have x0 := cell_of_block (i := 0) BX0.out rfl
    have x1 := cell_of_block (i := 1) BX0.out rfl
    have x2 := cell_of_block (i := 2) BX0.out rfl
    go_simp
    refine hK.out _ _ trivial (fun hHeld => ?_)
    clear hK K x0 x1 x2
    refine wpAnyH_ready (rs := [1, 3]) (by kernel_rfl) (by simp) ?_
    refine AllReadyH.cons rfl (fun K hK => ?_) (AllReadyH.cons rfl (fun K hK => ?_) AllReadyH.nil)
    · have x := cell_of_block (i := 0) BX0.out rfl
      go_simp
      refine hK.out _ _ trivial (fun hHeld => ?_)
      clear hK K x
      refine wpAnyH_ready (rs := [3]) (by kernel_rfl) (by simp) ?_
      refine AllReadyH.cons rfl (fun K hK => ?_) AllReadyH.nil
      go_simp
      refine (HIM.out V0 BE0.out).mono ?_
      rintro e V1 ⟨gb, gs, rfl, hb, hgb, hgs, hrb, hrs⟩
      have BX1 := Lib.hid ((hb.block _ (Array.getElem?_eq_some_iff.1 BX0.out).1).trans BX0.out)
      have BZ1 := Lib.hid ((hb.block _ (Array.getElem?_eq_some_iff.1 BZ0.out).1).trans BZ0.out)
      have RB1 := Lib.hid hrb
      have RS1 := Lib.hid hrs
      have BE1 := Lib.hid (BE0.out.trans (hb.mono BE0.out.size))
      have hz0 := (Array.getElem?_eq_some_iff.1 BZ0.out).1
      refine hK.out _ _ trivial (fun hHeld => ?_)
      clear hK K hb hrb hrs BX0 BZ0 BE0
      refine wpAnyH_ready (rs := [4]) (by kernel_rfl) (by simp) ?_
      refine AllReadyH.cons rfl (fun K hK => ?_) AllReadyH.nil
      go_simp
      refine hK.out _ _ trivial (fun hHeld => ?_)
      clear hK K
      refine wpAnyH_ready (rs := [5]) (by kernel_rfl) (by simp) ?_
      refine AllReadyH.cons rfl (fun K hK => ?_) AllReadyH.nil
      refine step_store_row (by rfl) (by rfl) 29 (.tmp 2) (.tmp 7) (by rfl) (w.heap.size + 1) (mC (newM base l) (some ⟨gb, 0, none⟩) l.length (.slice (some ⟨gs, 0, none⟩) sy.length sy.length) none 0) (by rfl) (by rfl) 29 #[.int .i64 0, .int .i64 0, .int .i64 0, .int .i64 0, .int .i64 0, .int .i64 0, .int .i64 0, .int .i64 0, .int .i64 0, .int .i64 0, .int .i64 0, .int .i64 0, .int .i64 0, .int .i64 0, .int .i64 0, .int .i64 0, .bool false, .int .i64 0, .int .i64 0, .int .i64 0, .slice none 0 0, .slice none 0 0, .slice none 0 0, .int .i64 0] BZ1.out (mSize _ _ _ _ _ _) rfl (mAll _ _ _ _ _ _ _ _) ?_
      refine hK.out _ _ trivial (fun hHeld => ?_)
      clear hK K
      refine wpAnyH_done (by kernel_rfl) ?_ _
      refine NoPanic.normal ?_
      go_wp2
      refine bodyPost_ret (v := .agg (mC (newM base l) (some ⟨gb, 0, none⟩) l.length (.slice (some ⟨gs, 0, none⟩) sy.length sy.length) none 0)) (res_1 Tryd.results11 rfl (setRow_heap _ _ _ _ _ _ BZ1.out) (mSize _ _ _ _ _ _)) rfl ⟨gb, gs, rfl, below_setRow BE1.out (by omega) _, by omega, by omega, ?_, ?_⟩
      · rw [setRow_other _ _ _ _ (by omega)]; exact RB1.out
      · rw [setRow_other _ _ _ _ (by omega)]; exact RS1.out
    · go_simp
      refine (HIM.out V0 BE0.out).mono ?_
      rintro e V1 ⟨gb, gs, rfl, hb, hgb, hgs, hrb, hrs⟩
      have BX1 := Lib.hid ((hb.block _ (Array.getElem?_eq_some_iff.1 BX0.out).1).trans BX0.out)
      have BZ1 := Lib.hid ((hb.block _ (Array.getElem?_eq_some_iff.1 BZ0.out).1).trans BZ0.out)
      have RB1 := Lib.hid hrb
      have RS1 := Lib.hid hrs
      have BE1 := Lib.hid (BE0.out.trans (hb.mono BE0.out.size))
      have hz0 := (Array.getElem?_eq_some_iff.1 BZ0.out).1
      refine hK.out _ _ trivial (fun hHeld => ?_)
      clear hK K hb hrb hrs BX0 BZ0 BE0
      refine wpAnyH_ready (rs := [1]) (by kernel_rfl) (by simp) ?_
      refine AllReadyH.cons rfl (fun K hK => ?_) AllReadyH.nil
      have x := cell_of_block (i := 0) BX1.out rfl
      go_simp
      refine hK.out _ _ trivial (fun hHeld => ?_)
      clear hK K x
      refine wpAnyH_ready (rs := [4]) (by kernel_rfl) (by simp) ?_
      refine AllReadyH.cons rfl (fun K hK => ?_) AllReadyH.nil
      go_simp
      refine hK.out _ _ trivial (fun hHeld => ?_)
      clear hK K
      refine wpAnyH_ready (rs := [5]) (by kernel_rfl) (by simp) ?_
      refine AllReadyH.cons rfl (fun K hK => ?_) AllReadyH.nil
      refine step_store_row (by rfl) (by rfl) 29 (.tmp 2) (.tmp 7) (by rfl) (w.heap.size + 1) (mC (newM base l) (some ⟨gb, 0, none⟩) l.length (.slice (some ⟨gs, 0, none⟩) sy.length sy.length) none 0) (by rfl) (by rfl) 29 #[.int .i64 0, .int .i64 0, .int .i64 0, .int .i64 0, .int .i64 0, .int .i64 0, .int .i64 0, .int .i64 0, .int .i64 0, .int .i64 0, .int .i64 0, .int .i64 0, .int .i64 0, .int .i64 0, .int .i64 0, .int .i64 0, .bool false, .int .i64 0, .int .i64 0, .int .i64 0, .slice none 0 0, .slice none 0 0, .slice none 0 0, .int .i64 0] BZ1.out (mSize _ _ _ _ _ _) rfl (mAll _ _ _ _ _ _ _ _) ?_
      refine hK.out _ _ trivial (fun hHeld => ?_)
      clear hK K
      refine wpAnyH_done (by kernel_rfl) ?_ _
      refine NoPanic.normal ?_
      go_wp2
      refine bodyPost_ret (v := .agg (mC (newM base l) (some ⟨gb, 0, none⟩) l.length (.slice (some ⟨gs, 0, none⟩) sy.length sy.length) none 0)) (res_1 Tryd.results11 rfl (setRow_heap _ _ _ _ _ _ BZ1.out) (mSize _ _ _ _ _ _)) rfl ⟨gb, gs, rfl, below_setRow BE1.out (by omega) _, by omega, by omega, ?_, ?_⟩
      · rw [setRow_other _ _ _ _ (by omega)]; exact RB1.out
      · rw [setRow_other _ _ _ _ (by omega)]; exact RS1.out

end Go.Proofs.YtabepbaldadmgaaDoor
