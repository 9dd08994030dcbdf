/- The program's own sim: Image, Own, New. -/
import Derived.Test.YtabepbaldadmgaaDoorSnP
import Derived.Test.YtabepbaldadmgaaDoorPut9
import Derived.Test.YtabepbaldadmgaaDoorPut16
namespace Go.Proofs.YtabepbaldadmgaaDoor
open Go.RowKit Isa

set_option maxHeartbeats 4000000 in
theorem pimage_any (base : Int) (l : List UInt8) (ba : Option Addr) (bc : Nat) (sy : List Sy) (s0 : Option Addr) (s2 : Nat) (w : World) (hB : BRd w ba l) (hS : SrcOf w s0 sy.length (scells sy)) (hl : l.length * 1 ≤ 140737488355328) (hsl : sy.length * 24 ≤ 140737488355328) :
    Calls Tryd.prog 14 #[.agg #[.int .i64 base, .slice ba l.length bc, .slice s0 sy.length s2]] w fun e w' => ∃ gb gs, e = .returned (.agg #[.int .i64 base, .slice (some ⟨gb, 0, none⟩) l.length l.length, .slice (some ⟨gs, 0, none⟩) sy.length sy.length]) ∧ Below w.heap.size w w' ∧ w.heap.size ≤ gb ∧ w.heap.size ≤ gs ∧ w'.heap[gb]? = some (.cells (mcells l).toArray 5 (0, 0)) ∧ w'.heap[gs]? = some (.cells (scells sy).toArray 61 (0, 0)) := by
  obtain ⟨V, hV⟩ : ∃ V, V = (w.alloc (.cells #[.int .i64 base, .slice ba l.length bc, .slice s0 sy.length s2] 26)).alloc (.cells #[.int .i64 0, .slice none 0 0, .slice none 0 0] 26) := ⟨_, rfl⟩
  have hV0 : Below w.heap.size w V := by rw [hV]; exact (oalloc _ _).trans ((oalloc _ _).mono (by simp))
  have hV1 : V.heap[w.heap.size]? = some (.cells #[.int .i64 base, .slice ba l.length bc, .slice s0 sy.length s2] 26 (0, 0)) := by rw [hV, (oalloc _ _).block _ (by simp)]; exact blk_new _ _ _
  have hV2 : V.heap[w.heap.size + 1]? = some (.cells #[.int .i64 0, .slice none 0 0, .slice none 0 0] 26 (0, 0)) := by
    rw [hV]
    have := blk_new (w.alloc (.cells #[.int .i64 base, .slice ba l.length bc, .slice s0 sy.length s2] 26)) #[.int .i64 0, .slice none 0 0, .slice none 0 0] 26
    simpa using this
  have HV := Lib.hid hV.symm
  have BX0 : Hid (V.drew.heap[w.heap.size]? = some (.cells #[.int .i64 base, .slice ba l.length bc, .slice s0 sy.length s2] 26 (0, 0))) := hV1
  have BZ0 : Hid (V.drew.heap[w.heap.size + 1]? = some (.cells #[.int .i64 0, .slice none 0 0, .slice none 0 0] 26 (0, 0))) := hV2
  have BE0 := Lib.hid hV0.drew
  have HOB : Hid (∀ X, Below w.heap.size w X → Calls Tryd.prog 28 #[.slice ba l.length bc] X fun e w' => e = .returned (.slice (some ⟨X.heap.size, 0, none⟩) l.length l.length) ∧ Below X.heap.size X w' ∧ w'.heap[X.heap.size]? = some (.cells (mcells l).toArray 5 (0, 0))) := fun X hX => pownB l ba bc X (hB.next hX) hl
  have HOS : Hid (∀ X, Below w.heap.size w X → Calls Tryd.prog 29 #[.slice s0 sy.length s2] X fun e w' => e = .returned (.slice (some ⟨X.heap.size, 0, none⟩) sy.length sy.length) ∧ Below X.heap.size X w' ∧ w'.heap[X.heap.size]? = some (.cells (scells sy).toArray 61 (0, 0))) := fun X hX => pownS sy s0 s2 X (hS.below hX (Nat.le_refl _)) hsl
  clear hV hV0 hV1 hV2 hB hS
  go_enter Tryd.func14, Tryd.ntmps14
  go_upto_region 1 with fail
  rw [HV.out]
  clear HV
  refine wp_region_noPanic ?_
  refine wp_region_held_drew (S := fun _ => True) (by kernel_rfl) trivial (fun hHeld => ?_)
  generalize V.drew = V0 at *
  refine take_at 0 3 (v := ?_) rfl rfl (by kernel_rfl) (by kernel_rfl) (by kernel_rfl) (fun _ _ _ h => h) rfl ?_ hHeld ?_
  rotate_left
  · intro w hSw
    go_simp
    try with_reducible rfl
  simp only [List.setIfInBounds_toArray, List.set_cons_zero, List.set_cons_succ]
  refine take_at 3 6 (v := ?_) rfl rfl (by kernel_rfl) (by kernel_rfl) (by kernel_rfl) (fun _ _ _ h => h) rfl ?_ hHeld ?_
  rotate_left
  · intro w hSw
    go_simp
    try with_reducible rfl
  simp only [List.setIfInBounds_toArray, List.set_cons_zero, List.set_cons_succ]
  refine wpAnyH_ready (rs := [1, 4]) (by kernel_rfl) (by simp) ?_
  refine AllReadyH.cons rfl (fun K hK => ?_) (AllReadyH.cons rfl (fun K hK => ?_) AllReadyH.nil)
  · have x := cell_of_block (i := 1) BX0.out rfl
    go_simp
    refine hK.out _ _ trivial (fun hHeld => ?_)
    clear hK K x
    refine wpAnyH_ready (rs := [2, 4]) (by kernel_rfl) (by simp) ?_
    refine AllReadyH.cons rfl (fun K hK => ?_) (AllReadyH.cons rfl (fun K hK => ?_) AllReadyH.nil)
    · go_simp
      refine (HOB.out V0 BE0.out).mono ?_
      rintro e V1 ⟨rfl, hb, hrow⟩
      have BX1 := Lib.hid ((hb.block _ (Array.getElem?_eq_some_iff.1 BX0.out).1).trans BX0.out)
      have BZ1 := Lib.hid ((hb.block _ (Array.getElem?_eq_some_iff.1 BZ0.out).1).trans BZ0.out)
      have RB1 := Lib.hid hrow
      have BE1 := Lib.hid (BE0.out.trans (hb.mono BE0.out.size))
      have hz0 := (Array.getElem?_eq_some_iff.1 BZ0.out).1
      refine hK.out _ _ trivial (fun hHeld => ?_)
      clear hK K hb hrow BX0 BZ0 BE0
      refine wpAnyH_ready (rs := [4]) (by kernel_rfl) (by simp) ?_
      refine AllReadyH.cons rfl (fun K hK => ?_) AllReadyH.nil
      have x := cell_of_block (i := 2) BX1.out rfl
      go_simp
      refine hK.out _ _ trivial (fun hHeld => ?_)
      clear hK K x
      refine take_at 6 9 (v := ?_) rfl rfl (by kernel_rfl) (by kernel_rfl) (by kernel_rfl) (fun _ _ _ h => h) rfl ?_ hHeld ?_
      rotate_left
      · intro w hSw
        go_simp
        try with_reducible rfl
      simp only [List.setIfInBounds_toArray, List.set_cons_zero, List.set_cons_succ]
      refine wpAnyH_ready (rs := [5]) (by kernel_rfl) (by simp) ?_
      refine AllReadyH.cons rfl (fun K hK => ?_) AllReadyH.nil
      go_simp
      refine (HOS.out V1 BE1.out).mono ?_
      rintro e V2 ⟨rfl, hb, hrow⟩
      have BX2 := Lib.hid ((hb.block _ (Array.getElem?_eq_some_iff.1 BX1.out).1).trans BX1.out)
      have BZ2 := Lib.hid ((hb.block _ (Array.getElem?_eq_some_iff.1 BZ1.out).1).trans BZ1.out)
      have RB2 := Lib.hid ((hb.block _ (Array.getElem?_eq_some_iff.1 RB1.out).1).trans RB1.out)
      have RS := Lib.hid hrow
      have BE2 := Lib.hid (BE1.out.trans (hb.mono BE1.out.size))
      have hz1 := (Array.getElem?_eq_some_iff.1 BZ1.out).1
      refine hK.out _ _ trivial (fun hHeld => ?_)
      clear hK K hb hrow BX1 BZ1 BE1 RB1
      refine wpAnyH_ready (rs := [7]) (by kernel_rfl) (by simp) ?_
      refine AllReadyH.cons rfl (fun K hK => ?_) AllReadyH.nil
      have x := cell_of_block (i := 1) BX2.out rfl
      have xf := blk_froz (i := 1) BX2.out
      go_simp
      refine hK.out _ _ trivial (fun hHeld => ?_)
      clear hK K x xf
      refine take_at 8 10 (v := ?_) rfl rfl (by kernel_rfl) (by kernel_rfl) (by kernel_rfl) (fun _ _ _ h => h) rfl ?_ hHeld ?_
      rotate_left
      · intro w hSw
        go_simp
        try with_reducible rfl
      simp only [List.setIfInBounds_toArray, List.set_cons_zero, List.set_cons_succ]
      refine wpAnyH_ready (rs := [9]) (by kernel_rfl) (by simp) ?_
      refine AllReadyH.cons rfl (fun K hK => ?_) AllReadyH.nil
      have hX1 := _root_.Go.heap_setCell_same V2 w.heap.size 1 _ 26 (.slice (some ⟨V0.heap.size, 0, none⟩) l.length l.length) BX2.out
      have x := cell_of_block (i := 2) hX1 rfl
      have xf := blk_froz (i := 2) hX1
      go_simp
      refine hK.out _ _ trivial (fun hHeld => ?_)
      clear hK K x xf hX1
      refine wpAnyH_done (by kernel_rfl) ?_ _
      refine NoPanic.normal ?_
      have hX1 := _root_.Go.heap_setCell_same V2 w.heap.size 1 _ 26 (.slice (some ⟨V0.heap.size, 0, none⟩) l.length l.length) BX2.out
      have hX2 := _root_.Go.heap_setCell_same _ w.heap.size 2 _ 26 (.slice (some ⟨V1.heap.size, 0, none⟩) sy.length sy.length) hX1
      have oth : ∀ q, q ≠ w.heap.size → ((V2.setCell ⟨w.heap.size, 1, none⟩ (.slice (some ⟨V0.heap.size, 0, none⟩) l.length l.length)).setCell ⟨w.heap.size, 2, none⟩ (.slice (some ⟨V1.heap.size, 0, none⟩) sy.length sy.length)).heap[q]? = V2.heap[q]? := fun q hq => by rw [Below.heap_setCell _ _ _ _ (by exact hq), Below.heap_setCell _ _ _ _ (by exact hq)]
      have HX := Lib.hid hX2
      have HZ := Lib.hid ((oth (w.heap.size + 1) (by omega)).trans BZ2.out)
      have HRB := Lib.hid ((oth _ (by omega)).trans RB2.out)
      have HRS := Lib.hid ((oth _ (by omega)).trans RS.out)
      have HBE := Lib.hid ((BE2.out.setCell (p := ⟨w.heap.size, 1, none⟩) (Nat.le_refl _) (.slice (some ⟨V0.heap.size, 0, none⟩) l.length l.length)).setCell (p := ⟨w.heap.size, 2, none⟩) (Nat.le_refl _) (.slice (some ⟨V1.heap.size, 0, none⟩) sy.length sy.length))
      have hgb : w.heap.size + 1 < V0.heap.size := by omega
      have hgs : w.heap.size + 1 < V1.heap.size := by omega
      clear hX1 hX2 oth
      generalize ((V2.setCell ⟨w.heap.size, 1, none⟩ (.slice (some ⟨V0.heap.size, 0, none⟩) l.length l.length)).setCell ⟨w.heap.size, 2, none⟩ (.slice (some ⟨V1.heap.size, 0, none⟩) sy.length sy.length)) = X at *
      generalize V0.heap.size = gb at *
      generalize V1.heap.size = gs at *
      have y0 := cell_of_block (i := 0) HX.out rfl
      have y1 := cell_of_block (i := 1) HX.out rfl
      have y2 := cell_of_block (i := 2) HX.out rfl
      have z0 := cell_of_block (i := 0) HZ.out rfl
      have z1 := cell_of_block (i := 1) HZ.out rfl
      have z2 := cell_of_block (i := 2) HZ.out rfl
      have zf0 := blk_froz (i := 0) HZ.out
      have zf1 := blk_froz (i := 1) HZ.out
      have zf2 := blk_froz (i := 2) HZ.out
      go_wp2
      refine bodyPost_ret (v := .agg #[.int .i64 base, .slice (some ⟨gb, 0, none⟩) l.length l.length, .slice (some ⟨gs, 0, none⟩) sy.length sy.length]) (by simp [results, Tryd.results14, go_sem, z0, z1, z2]) rfl ⟨gb, gs, rfl, ((HBE.out.setCell (by show w.heap.size ≤ w.heap.size + 1; omega) _).setCell (by show w.heap.size ≤ w.heap.size + 1; omega) _).setCell (by show w.heap.size ≤ w.heap.size + 1; omega) _, by omega, by omega, ?_, ?_⟩
      · rw [Below.heap_setCell _ _ _ _ (by show gb ≠ w.heap.size + 1; omega), Below.heap_setCell _ _ _ _ (by show gb ≠ w.heap.size + 1; omega), Below.heap_setCell _ _ _ _ (by show gb ≠ w.heap.size + 1; omega)]; exact HRB.out
      · rw [Below.heap_setCell _ _ _ _ (by show gs ≠ w.heap.size + 1; omega), Below.heap_setCell _ _ _ _ (by show gs ≠ w.heap.size + 1; omega), Below.heap_setCell _ _ _ _ (by show gs ≠ w.heap.size + 1; omega)]; exact HRS.out
    · have x := cell_of_block (i := 2) BX0.out rfl
      go_simp
      refine hK.out _ _ trivial (fun hHeld => ?_)
      clear hK K x
      refine wpAnyH_ready (rs := [2]) (by kernel_rfl) (by simp) ?_
      refine AllReadyH.cons rfl (fun K hK => ?_) AllReadyH.nil
      go_simp
      refine (HOB.out V0 BE0.out).mono ?_
      rintro e V1 ⟨rfl, hb, hrow⟩
      have BX1 := Lib.hid ((hb.block _ (Array.getElem?_eq_some_iff.1 BX0.out).1).trans BX0.out)
      have BZ1 := Lib.hid ((hb.block _ (Array.getElem?_eq_some_iff.1 BZ0.out).1).trans BZ0.out)
      have RB1 := Lib.hid hrow
      have BE1 := Lib.hid (BE0.out.trans (hb.mono BE0.out.size))
      have hz0 := (Array.getElem?_eq_some_iff.1 BZ0.out).1
      refine hK.out _ _ trivial (fun hHeld => ?_)
      clear hK K hb hrow BX0 BZ0 BE0
      refine take_at 6 9 (v := ?_) rfl rfl (by kernel_rfl) (by kernel_rfl) (by kernel_rfl) (fun _ _ _ h => h) rfl ?_ hHeld ?_
      rotate_left
      · intro w hSw
        go_simp
        try with_reducible rfl
      simp only [List.setIfInBounds_toArray, List.set_cons_zero, List.set_cons_succ]
      refine wpAnyH_ready (rs := [5]) (by kernel_rfl) (by simp) ?_
      refine AllReadyH.cons rfl (fun K hK => ?_) AllReadyH.nil
      go_simp
      refine (HOS.out V1 BE1.out).mono ?_
      rintro e V2 ⟨rfl, hb, hrow⟩
      have BX2 := Lib.hid ((hb.block _ (Array.getElem?_eq_some_iff.1 BX1.out).1).trans BX1.out)
      have BZ2 := Lib.hid ((hb.block _ (Array.getElem?_eq_some_iff.1 BZ1.out).1).trans BZ1.out)
      have RB2 := Lib.hid ((hb.block _ (Array.getElem?_eq_some_iff.1 RB1.out).1).trans RB1.out)
      have RS := Lib.hid hrow
      have BE2 := Lib.hid (BE1.out.trans (hb.mono BE1.out.size))
      have hz1 := (Array.getElem?_eq_some_iff.1 BZ1.out).1
      refine hK.out _ _ trivial (fun hHeld => ?_)
      clear hK K hb hrow BX1 BZ1 BE1 RB1
      refine wpAnyH_ready (rs := [7]) (by kernel_rfl) (by simp) ?_
      refine AllReadyH.cons rfl (fun K hK => ?_) AllReadyH.nil
      have x := cell_of_block (i := 1) BX2.out rfl
      have xf := blk_froz (i := 1) BX2.out
      go_simp
      refine hK.out _ _ trivial (fun hHeld => ?_)
      clear hK K x xf
      refine take_at 8 10 (v := ?_) rfl rfl (by kernel_rfl) (by kernel_rfl) (by kernel_rfl) (fun _ _ _ h => h) rfl ?_ hHeld ?_
      rotate_left
      · intro w hSw
        go_simp
        try with_reducible rfl
      simp only [List.setIfInBounds_toArray, List.set_cons_zero, List.set_cons_succ]
      refine wpAnyH_ready (rs := [9]) (by kernel_rfl) (by simp) ?_
      refine AllReadyH.cons rfl (fun K hK => ?_) AllReadyH.nil
      have hX1 := _root_.Go.heap_setCell_same V2 w.heap.size 1 _ 26 (.slice (some ⟨V0.heap.size, 0, none⟩) l.length l.length) BX2.out
      have x := cell_of_block (i := 2) hX1 rfl
      have xf := blk_froz (i := 2) hX1
      go_simp
      refine hK.out _ _ trivial (fun hHeld => ?_)
      clear hK K x xf hX1
      refine wpAnyH_done (by kernel_rfl) ?_ _
      refine NoPanic.normal ?_
      have hX1 := _root_.Go.heap_setCell_same V2 w.heap.size 1 _ 26 (.slice (some ⟨V0.heap.size, 0, none⟩) l.length l.length) BX2.out
      have hX2 := _root_.Go.heap_setCell_same _ w.heap.size 2 _ 26 (.slice (some ⟨V1.heap.size, 0, none⟩) sy.length sy.length) hX1
      have oth : ∀ q, q ≠ w.heap.size → ((V2.setCell ⟨w.heap.size, 1, none⟩ (.slice (some ⟨V0.heap.size, 0, none⟩) l.length l.length)).setCell ⟨w.heap.size, 2, none⟩ (.slice (some ⟨V1.heap.size, 0, none⟩) sy.length sy.length)).heap[q]? = V2.heap[q]? := fun q hq => by rw [Below.heap_setCell _ _ _ _ (by exact hq), Below.heap_setCell _ _ _ _ (by exact hq)]
      have HX := Lib.hid hX2
      have HZ := Lib.hid ((oth (w.heap.size + 1) (by omega)).trans BZ2.out)
      have HRB := Lib.hid ((oth _ (by omega)).trans RB2.out)
      have HRS := Lib.hid ((oth _ (by omega)).trans RS.out)
      have HBE := Lib.hid ((BE2.out.setCell (p := ⟨w.heap.size, 1, none⟩) (Nat.le_refl _) (.slice (some ⟨V0.heap.size, 0, none⟩) l.length l.length)).setCell (p := ⟨w.heap.size, 2, none⟩) (Nat.le_refl _) (.slice (some ⟨V1.heap.size, 0, none⟩) sy.length sy.length))
      have hgb : w.heap.size + 1 < V0.heap.size := by omega
      have hgs : w.heap.size + 1 < V1.heap.size := by omega
      clear hX1 hX2 oth
      generalize ((V2.setCell ⟨w.heap.size, 1, none⟩ (.slice (some ⟨V0.heap.size, 0, none⟩) l.length l.length)).setCell ⟨w.heap.size, 2, none⟩ (.slice (some ⟨V1.heap.size, 0, none⟩) sy.length sy.length)) = X at *
      generalize V0.heap.size = gb at *
      generalize V1.heap.size = gs at *
      have y0 := cell_of_block (i := 0) HX.out rfl
      have y1 := cell_of_block (i := 1) HX.out rfl
      have y2 := cell_of_block (i := 2) HX.out rfl
      have z0 := cell_of_block (i := 0) HZ.out rfl
      have z1 := cell_of_block (i := 1) HZ.out rfl
      have z2 := cell_of_block (i := 2) HZ.out rfl
      have zf0 := blk_froz (i := 0) HZ.out
      have zf1 := blk_froz (i := 1) HZ.out
      have zf2 := blk_froz (i := 2) HZ.out
      go_wp2
      refine bodyPost_ret (v := .agg #[.int .i64 base, .slice (some ⟨gb, 0, none⟩) l.length l.length, .slice (some ⟨gs, 0, none⟩) sy.length sy.length]) (by simp [results, Tryd.results14, go_sem, z0, z1, z2]) rfl ⟨gb, gs, rfl, ((HBE.out.setCell (by show w.heap.size ≤ w.heap.size + 1; omega) _).setCell (by show w.heap.size ≤ w.heap.size + 1; omega) _).setCell (by show w.heap.size ≤ w.heap.size + 1; omega) _, by omega, by omega, ?_, ?_⟩
      · rw [Below.heap_setCell _ _ _ _ (by show gb ≠ w.heap.size + 1; omega), Below.heap_setCell _ _ _ _ (by show gb ≠ w.heap.size + 1; omega), Below.heap_setCell _ _ _ _ (by show gb ≠ w.heap.size + 1; omega)]; exact HRB.out
      · rw [Below.heap_setCell _ _ _ _ (by show gs ≠ w.heap.size + 1; omega), Below.heap_setCell _ _ _ _ (by show gs ≠ w.heap.size + 1; omega), Below.heap_setCell _ _ _ _ (by show gs ≠ w.heap.size + 1; omega)]; exact HRS.out
  · have x := cell_of_block (i := 2) BX0.out rfl
    go_simp
    refine hK.out _ _ trivial (fun hHeld => ?_)
    clear hK K x
    refine wpAnyH_ready (rs := [1]) (by kernel_rfl) (by simp) ?_
    refine AllReadyH.cons rfl (fun K hK => ?_) AllReadyH.nil
    have x := cell_of_block (i := 1) BX0.out rfl
    go_simp
    refine hK.out _ _ trivial (fun hHeld => ?_)
    clear hK K x
    refine wpAnyH_ready (rs := [2]) (by kernel_rfl) (by simp) ?_
    refine AllReadyH.cons rfl (fun K hK => ?_) AllReadyH.nil
    go_simp
    refine (HOB.out V0 BE0.out).mono ?_
    rintro e V1 ⟨rfl, hb, hrow⟩
    have BX1 := Lib.hid ((hb.block _ (Array.getElem?_eq_some_iff.1 BX0.out).1).trans BX0.out)
    have BZ1 := Lib.hid ((hb.block _ (Array.getElem?_eq_some_iff.1 BZ0.out).1).trans BZ0.out)
    have RB1 := Lib.hid hrow
    have BE1 := Lib.hid (BE0.out.trans (hb.mono BE0.out.size))
    have hz0 := (Array.getElem?_eq_some_iff.1 BZ0.out).1
    refine hK.out _ _ trivial (fun hHeld => ?_)
    clear hK K hb hrow BX0 BZ0 BE0
    refine take_at 6 9 (v := ?_) rfl rfl (by kernel_rfl) (by kernel_rfl) (by kernel_rfl) (fun _ _ _ h => h) rfl ?_ hHeld ?_
    rotate_left
    · intro w hSw
      go_simp
      try with_reducible rfl
    simp only [List.setIfInBounds_toArray, List.set_cons_zero, List.set_cons_succ]
    refine wpAnyH_ready (rs := [5]) (by kernel_rfl) (by simp) ?_
    refine AllReadyH.cons rfl (fun K hK => ?_) AllReadyH.nil
    go_simp
    refine (HOS.out V1 BE1.out).mono ?_
    rintro e V2 ⟨rfl, hb, hrow⟩
    have BX2 := Lib.hid ((hb.block _ (Array.getElem?_eq_some_iff.1 BX1.out).1).trans BX1.out)
    have BZ2 := Lib.hid ((hb.block _ (Array.getElem?_eq_some_iff.1 BZ1.out).1).trans BZ1.out)
    have RB2 := Lib.hid ((hb.block _ (Array.getElem?_eq_some_iff.1 RB1.out).1).trans RB1.out)
    have RS := Lib.hid hrow
    have BE2 := Lib.hid (BE1.out.trans (hb.mono BE1.out.size))
    have hz1 := (Array.getElem?_eq_some_iff.1 BZ1.out).1
    refine hK.out _ _ trivial (fun hHeld => ?_)
    clear hK K hb hrow BX1 BZ1 BE1 RB1
    refine wpAnyH_ready (rs := [7]) (by kernel_rfl) (by simp) ?_
    refine AllReadyH.cons rfl (fun K hK => ?_) AllReadyH.nil
    have x := cell_of_block (i := 1) BX2.out rfl
    have xf := blk_froz (i := 1) BX2.out
    go_simp
    refine hK.out _ _ trivial (fun hHeld => ?_)
    clear hK K x xf
    refine take_at 8 10 (v := ?_) rfl rfl (by kernel_rfl) (by kernel_rfl) (by kernel_rfl) (fun _ _ _ h => h) rfl ?_ hHeld ?_
    rotate_left
    · intro w hSw
      go_simp
      try with_reducible rfl
    simp only [List.setIfInBounds_toArray, List.set_cons_zero, List.set_cons_succ]
    refine wpAnyH_ready (rs := [9]) (by kernel_rfl) (by simp) ?_
    refine AllReadyH.cons rfl (fun K hK => ?_) AllReadyH.nil
    have hX1 := _root_.Go.heap_setCell_same V2 w.heap.size 1 _ 26 (.slice (some ⟨V0.heap.size, 0, none⟩) l.length l.length) BX2.out
    have x := cell_of_block (i := 2) hX1 rfl
    have xf := blk_froz (i := 2) hX1
    go_simp
    refine hK.out _ _ trivial (fun hHeld => ?_)
    clear hK K x xf hX1
    refine wpAnyH_done (by kernel_rfl) ?_ _
    refine NoPanic.normal ?_
    have hX1 := _root_.Go.heap_setCell_same V2 w.heap.size 1 _ 26 (.slice (some ⟨V0.heap.size, 0, none⟩) l.length l.length) BX2.out
    have hX2 := _root_.Go.heap_setCell_same _ w.heap.size 2 _ 26 (.slice (some ⟨V1.heap.size, 0, none⟩) sy.length sy.length) hX1
    have oth : ∀ q, q ≠ w.heap.size → ((V2.setCell ⟨w.heap.size, 1, none⟩ (.slice (some ⟨V0.heap.size, 0, none⟩) l.length l.length)).setCell ⟨w.heap.size, 2, none⟩ (.slice (some ⟨V1.heap.size, 0, none⟩) sy.length sy.length)).heap[q]? = V2.heap[q]? := fun q hq => by rw [Below.heap_setCell _ _ _ _ (by exact hq), Below.heap_setCell _ _ _ _ (by exact hq)]
    have HX := Lib.hid hX2
    have HZ := Lib.hid ((oth (w.heap.size + 1) (by omega)).trans BZ2.out)
    have HRB := Lib.hid ((oth _ (by omega)).trans RB2.out)
    have HRS := Lib.hid ((oth _ (by omega)).trans RS.out)
    have HBE := Lib.hid ((BE2.out.setCell (p := ⟨w.heap.size, 1, none⟩) (Nat.le_refl _) (.slice (some ⟨V0.heap.size, 0, none⟩) l.length l.length)).setCell (p := ⟨w.heap.size, 2, none⟩) (Nat.le_refl _) (.slice (some ⟨V1.heap.size, 0, none⟩) sy.length sy.length))
    have hgb : w.heap.size + 1 < V0.heap.size := by omega
    have hgs : w.heap.size + 1 < V1.heap.size := by omega
    clear hX1 hX2 oth
    generalize ((V2.setCell ⟨w.heap.size, 1, none⟩ (.slice (some ⟨V0.heap.size, 0, none⟩) l.length l.length)).setCell ⟨w.heap.size, 2, none⟩ (.slice (some ⟨V1.heap.size, 0, none⟩) sy.length sy.length)) = X at *
    generalize V0.heap.size = gb at *
    generalize V1.heap.size = gs at *
    have y0 := cell_of_block (i := 0) HX.out rfl
    have y1 := cell_of_block (i := 1) HX.out rfl
    have y2 := cell_of_block (i := 2) HX.out rfl
    have z0 := cell_of_block (i := 0) HZ.out rfl
    have z1 := cell_of_block (i := 1) HZ.out rfl
    have z2 := cell_of_block (i := 2) HZ.out rfl
    have zf0 := blk_froz (i := 0) HZ.out
    have zf1 := blk_froz (i := 1) HZ.out
    have zf2 := blk_froz (i := 2) HZ.out
    go_wp2
    refine bodyPost_ret (v := .agg #[.int .i64 base, .slice (some ⟨gb, 0, none⟩) l.length l.length, .slice (some ⟨gs, 0, none⟩) sy.length sy.length]) (by simp [results, Tryd.results14, go_sem, z0, z1, z2]) rfl ⟨gb, gs, rfl, ((HBE.out.setCell (by show w.heap.size ≤ w.heap.size + 1; omega) _).setCell (by show w.heap.size ≤ w.heap.size + 1; omega) _).setCell (by show w.heap.size ≤ w.heap.size + 1; omega) _, by omega, by omega, ?_, ?_⟩
    · rw [Below.heap_setCell _ _ _ _ (by show gb ≠ w.heap.size + 1; omega), Below.heap_setCell _ _ _ _ (by show gb ≠ w.heap.size + 1; omega), Below.heap_setCell _ _ _ _ (by show gb ≠ w.heap.size + 1; omega)]; exact HRB.out
    · rw [Below.heap_setCell _ _ _ _ (by show gs ≠ w.heap.size + 1; omega), Below.heap_setCell _ _ _ _ (by show gs ≠ w.heap.size + 1; omega), Below.heap_setCell _ _ _ _ (by show gs ≠ w.heap.size + 1; omega)]; exact HRS.out

theorem res_1 {fn : Func} (hr : fn.results = #[.cell 2 29]) {T : Array Value} {W : World} {g : Nat} {c : Array Value} (h2 : T.getD 2 undef = .pointer (some ⟨g, 0, none⟩)) (hg : W.heap[g]? = some (.cells c 29 (0, 0))) (hs : (Tryd.prog.info? 29).map (·.size) = some c.size) :
    (results fn T).run Tryd.prog W = .ok (.agg c) W := by
  have hl := run_loadVar_row (P := Tryd.prog) W g 29 29 c (0, 0) _ hg Tryd.underlying29 rfl hs
  have h2' : T[2]?.getD undef = .pointer (some ⟨g, 0, none⟩) := by simpa using h2
  simp [results, hr, h2', asAddr, hl]

set_option maxHeartbeats 8000000 in
set_option maxRecDepth 100000 in
theorem pown_any (m : Ma) (ba : Option Addr) (bc : Nat) (sy : List Sy) (s0 : Option Addr) (s2 : Nat) (ta : Option Addr) (tc : Nat) (w : World) (hB : BRd w ba m.by') (hS : SrcOf w s0 sy.length (scells sy)) (hT : TRd w ta m.told) (hl : m.by'.length * 1 ≤ 140737488355328) (hsl : sy.length * 24 ≤ 140737488355328) (htl : m.told.length * 8 ≤ 140737488355328) :
    Calls Tryd.prog 10 #[.agg (mC m ba bc (.slice s0 sy.length s2) ta tc)] w fun e w' => ∃ gb gs gt, e = .returned (.agg (mC m (some ⟨gb, 0, none⟩) m.by'.length (.slice (some ⟨gs, 0, none⟩) sy.length sy.length) (some ⟨gt, 0, none⟩) m.told.length)) ∧ Below w.heap.size w w' ∧ w.heap.size ≤ gb ∧ w.heap.size ≤ gs ∧ gb < gt ∧ gs < gt ∧ w'.heap[gb]? = some (.cells (mcells m.by').toArray 5 (0, 0)) ∧ w'.heap[gs]? = some (.cells (scells sy).toArray 61 (0, 0)) ∧ w'.heap[gt]? = some (.cells (icells m.told).toArray 3 (0, 0)) := by
  obtain ⟨V, hV⟩ : ∃ V, V = (w.alloc (.cells (mC m ba bc (.slice s0 sy.length s2) ta tc) 29)).alloc (.cells #[.int .i64 0, .int .i64 0, .int .i64 0, .int .i64 0, .int .i64 0, .int .i64 0, .int .i64 0, .int .i64 0, .int .i64 0, .int .i64 0, .int .i64 0, .int .i64 0, .int .i64 0, .int .i64 0, .int .i64 0, .int .i64 0, .bool false, .int .i64 0, .int .i64 0, .int .i64 0, .slice none 0 0, .slice none 0 0, .slice none 0 0, .int .i64 0] 29) := ⟨_, rfl⟩
  have hV0 : Below w.heap.size w V := by rw [hV]; exact (oalloc _ _).trans ((oalloc _ _).mono (by simp))
  have hV1 : V.heap[w.heap.size]? = some (.cells (mC m ba bc (.slice s0 sy.length s2) ta tc) 29 (0, 0)) := by rw [hV, (oalloc _ _).block _ (by simp)]; exact blk_new _ _ _
  have hV2 : V.heap[w.heap.size + 1]? = some (.cells #[.int .i64 0, .int .i64 0, .int .i64 0, .int .i64 0, .int .i64 0, .int .i64 0, .int .i64 0, .int .i64 0, .int .i64 0, .int .i64 0, .int .i64 0, .int .i64 0, .int .i64 0, .int .i64 0, .int .i64 0, .int .i64 0, .bool false, .int .i64 0, .int .i64 0, .int .i64 0, .slice none 0 0, .slice none 0 0, .slice none 0 0, .int .i64 0] 29 (0, 0)) := by
    rw [hV]
    have := blk_new (w.alloc (.cells (mC m ba bc (.slice s0 sy.length s2) ta tc) 29)) #[.int .i64 0, .int .i64 0, .int .i64 0, .int .i64 0, .int .i64 0, .int .i64 0, .int .i64 0, .int .i64 0, .int .i64 0, .int .i64 0, .int .i64 0, .int .i64 0, .int .i64 0, .int .i64 0, .int .i64 0, .int .i64 0, .bool false, .int .i64 0, .int .i64 0, .int .i64 0, .slice none 0 0, .slice none 0 0, .slice none 0 0, .int .i64 0] 29
    simpa using this
  have HV := Lib.hid hV.symm
  have BX0 : Hid (V.drew.heap[w.heap.size]? = some (.cells (mC m ba bc (.slice s0 sy.length s2) ta tc) 29 (0, 0))) := hV1
  have BZ0 : Hid (V.drew.heap[w.heap.size + 1]? = some (.cells #[.int .i64 0, .int .i64 0, .int .i64 0, .int .i64 0, .int .i64 0, .int .i64 0, .int .i64 0, .int .i64 0, .int .i64 0, .int .i64 0, .int .i64 0, .int .i64 0, .int .i64 0, .int .i64 0, .int .i64 0, .int .i64 0, .bool false, .int .i64 0, .int .i64 0, .int .i64 0, .slice none 0 0, .slice none 0 0, .slice none 0 0, .int .i64 0] 29 (0, 0))) := hV2
  have BE0 := Lib.hid hV0.drew
  have HIM : Hid (∀ X, Below w.heap.size w X → Calls Tryd.prog 14 #[.agg #[.int .i64 m.base, .slice ba m.by'.length bc, .slice s0 sy.length s2]] X fun e w' => ∃ gb gs, e = .returned (.agg #[.int .i64 m.base, .slice (some ⟨gb, 0, none⟩) m.by'.length m.by'.length, .slice (some ⟨gs, 0, none⟩) sy.length sy.length]) ∧ Below X.heap.size X w' ∧ X.heap.size ≤ gb ∧ X.heap.size ≤ gs ∧ w'.heap[gb]? = some (.cells (mcells m.by').toArray 5 (0, 0)) ∧ w'.heap[gs]? = some (.cells (scells sy).toArray 61 (0, 0))) := fun X hX => pimage_any m.base m.by' ba bc sy s0 s2 X (hB.next hX) (hS.below hX (Nat.le_refl _)) hl hsl
  have HOT : Hid (∀ X, Below w.heap.size w X → Calls Tryd.prog 27 #[.slice ta m.told.length tc] X fun e w' => e = .returned (.slice (some ⟨X.heap.size, 0, none⟩) m.told.length m.told.length) ∧ Below X.heap.size X w' ∧ w'.heap[X.heap.size]? = some (.cells (icells m.told).toArray 3 (0, 0))) := fun X hX => pownI m.told ta tc X (hT.next hX) htl
  clear hV hV0 hV1 hV2 hB hS hT
  go_enter Tryd.func10, Tryd.ntmps10
  go_upto_region 1 with fail
  rw [HV.out]
  clear HV
  refine wp_region_noPanic ?_
  refine wp_region_held_drew (S := fun _ => True) (by kernel_rfl) trivial (fun hHeld => ?_)
  generalize V.drew = V0 at *
  refine take_at 0 3 (v := ?_) rfl rfl (by kernel_rfl) (by kernel_rfl) (by kernel_rfl) (fun _ _ _ h => h) rfl ?_ hHeld ?_
  rotate_left
  · intro w hSw
    go_simp
    try with_reducible rfl
  simp only [List.setIfInBounds_toArray, List.set_cons_zero, List.set_cons_succ]
  refine take_at 3 6 (v := ?_) rfl rfl (by kernel_rfl) (by kernel_rfl) (by kernel_rfl) (fun _ _ _ h => h) rfl ?_ hHeld ?_
  rotate_left
  · intro w hSw
    go_simp
    try with_reducible rfl
  simp only [List.setIfInBounds_toArray, List.set_cons_zero, List.set_cons_succ]
  refine wpAnyH_ready (rs := [1, 4]) (by kernel_rfl) (by simp) ?_
  refine AllReadyH.cons rfl (fun K hK => ?_) (AllReadyH.cons rfl (fun K hK => ?_) AllReadyH.nil)
  · have x0 := cell_of_block (i := 19) BX0.out rfl
    have x1 := cell_of_block (i := 20) BX0.out rfl
    have x2 := cell_of_block (i := 21) BX0.out rfl
    go_simp
    refine hK.out _ _ trivial (fun hHeld => ?_)
    clear hK K x0 x1 x2
    refine wpAnyH_ready (rs := [2, 4]) (by kernel_rfl) (by simp) ?_
    refine AllReadyH.cons rfl (fun K hK => ?_) (AllReadyH.cons rfl (fun K hK => ?_) AllReadyH.nil)
    · go_simp
      refine (HIM.out V0 BE0.out).mono ?_
      rintro e V1 ⟨gb, gs, rfl, hb, hgb, hgs, hrb, hrs⟩
      have BX1 := Lib.hid ((hb.block _ (Array.getElem?_eq_some_iff.1 BX0.out).1).trans BX0.out)
      have BZ1 := Lib.hid ((hb.block _ (Array.getElem?_eq_some_iff.1 BZ0.out).1).trans BZ0.out)
      have RB1 := Lib.hid hrb
      have RS1 := Lib.hid hrs
      have BE1 := Lib.hid (BE0.out.trans (hb.mono BE0.out.size))
      have hz0 := (Array.getElem?_eq_some_iff.1 BZ0.out).1
      refine hK.out _ _ trivial (fun hHeld => ?_)
      clear hK K hb hrb hrs BX0 BZ0 BE0
      refine wpAnyH_ready (rs := [4]) (by kernel_rfl) (by simp) ?_
      refine AllReadyH.cons rfl (fun K hK => ?_) AllReadyH.nil
      have x := cell_of_block (i := 22) BX1.out rfl
      go_simp
      refine hK.out _ _ trivial (fun hHeld => ?_)
      clear hK K x
      refine take_at 6 9 (v := ?_) rfl rfl (by kernel_rfl) (by kernel_rfl) (by kernel_rfl) (fun _ _ _ h => h) rfl ?_ hHeld ?_
      rotate_left
      · intro w hSw
        go_simp
        try with_reducible rfl
      simp only [List.setIfInBounds_toArray, List.set_cons_zero, List.set_cons_succ]
      refine wpAnyH_ready (rs := [5]) (by kernel_rfl) (by simp) ?_
      refine AllReadyH.cons rfl (fun K hK => ?_) AllReadyH.nil
      go_simp
      refine (HOT.out V1 BE1.out).mono ?_
      rintro e V2 ⟨rfl, hb, hrow⟩
      have BX2 := Lib.hid ((hb.block _ (Array.getElem?_eq_some_iff.1 BX1.out).1).trans BX1.out)
      have BZ2 := Lib.hid ((hb.block _ (Array.getElem?_eq_some_iff.1 BZ1.out).1).trans BZ1.out)
      have RB2 := Lib.hid ((hb.block _ (Array.getElem?_eq_some_iff.1 RB1.out).1).trans RB1.out)
      have RS2 := Lib.hid ((hb.block _ (Array.getElem?_eq_some_iff.1 RS1.out).1).trans RS1.out)
      have RT := Lib.hid hrow
      have BE2 := Lib.hid (BE1.out.trans (hb.mono BE1.out.size))
      have hb1 := (Array.getElem?_eq_some_iff.1 RB1.out).1
      have hb2 := (Array.getElem?_eq_some_iff.1 RS1.out).1
      refine hK.out _ _ trivial (fun hHeld => ?_)
      clear hK K hb hrow BX1 BZ1 BE1 RB1 RS1
      refine wpAnyH_ready (rs := [7]) (by kernel_rfl) (by simp) ?_
      refine AllReadyH.cons rfl (fun K hK => ?_) AllReadyH.nil
      have x0 := cell_of_block (i := 19) BX2.out rfl
      have x1 := cell_of_block (i := 20) BX2.out rfl
      have x2 := cell_of_block (i := 21) BX2.out rfl
      have f0 := blk_froz (i := 19) BX2.out
      have f1 := blk_froz (i := 20) BX2.out
      have f2 := blk_froz (i := 21) BX2.out
      go_simp
      refine hK.out _ _ trivial (fun hHeld => ?_)
      clear hK K x0 x1 x2 f0 f1 f2
      refine take_at 8 10 (v := ?_) rfl rfl (by kernel_rfl) (by kernel_rfl) (by kernel_rfl) (fun _ _ _ h => h) rfl ?_ hHeld ?_
      rotate_left
      · intro w hSw
        go_simp
        try with_reducible rfl
      simp only [List.setIfInBounds_toArray, List.set_cons_zero, List.set_cons_succ]
      refine wpAnyH_ready (rs := [9]) (by kernel_rfl) (by simp) ?_
      refine AllReadyH.cons rfl (fun K hK => ?_) AllReadyH.nil
      have hX1 := _root_.Go.heap_setCell_same V2 w.heap.size 19 _ 29 (.int .i64 m.base) BX2.out
      have hX2 := _root_.Go.heap_setCell_same _ w.heap.size 20 _ 29 (.slice (some ⟨gb, 0, none⟩) m.by'.length m.by'.length) hX1
      have hX3 := _root_.Go.heap_setCell_same _ w.heap.size 21 _ 29 (.slice (some ⟨gs, 0, none⟩) sy.length sy.length) hX2
      have x := cell_of_block (i := 22) hX3 rfl
      have xf := blk_froz (i := 22) hX3
      go_simp
      refine hK.out _ _ trivial (fun hHeld => ?_)
      clear hK K x xf hX1 hX2 hX3
      refine wpAnyH_done (by kernel_rfl) ?_ _
      refine NoPanic.normal ?_
      have hX1 := _root_.Go.heap_setCell_same V2 w.heap.size 19 _ 29 (.int .i64 m.base) BX2.out
      have hX2 := _root_.Go.heap_setCell_same _ w.heap.size 20 _ 29 (.slice (some ⟨gb, 0, none⟩) m.by'.length m.by'.length) hX1
      have hX3 := _root_.Go.heap_setCell_same _ w.heap.size 21 _ 29 (.slice (some ⟨gs, 0, none⟩) sy.length sy.length) hX2
      have hX4 := _root_.Go.heap_setCell_same _ w.heap.size 22 _ 29 (.slice (some ⟨V1.heap.size, 0, none⟩) m.told.length m.told.length) hX3
      have oth : ∀ q, q ≠ w.heap.size → ((((V2.setCell ⟨w.heap.size, 19, none⟩ (.int .i64 m.base)).setCell ⟨w.heap.size, 20, none⟩ (.slice (some ⟨gb, 0, none⟩) m.by'.length m.by'.length)).setCell ⟨w.heap.size, 21, none⟩ (.slice (some ⟨gs, 0, none⟩) sy.length sy.length)).setCell ⟨w.heap.size, 22, none⟩ (.slice (some ⟨V1.heap.size, 0, none⟩) m.told.length m.told.length)).heap[q]? = V2.heap[q]? := fun q hq => by rw [Below.heap_setCell _ _ _ _ (by exact hq), Below.heap_setCell _ _ _ _ (by exact hq), Below.heap_setCell _ _ _ _ (by exact hq), Below.heap_setCell _ _ _ _ (by exact hq)]
      have HX : Hid (((((V2.setCell ⟨w.heap.size, 19, none⟩ (.int .i64 m.base)).setCell ⟨w.heap.size, 20, none⟩ (.slice (some ⟨gb, 0, none⟩) m.by'.length m.by'.length)).setCell ⟨w.heap.size, 21, none⟩ (.slice (some ⟨gs, 0, none⟩) sy.length sy.length)).setCell ⟨w.heap.size, 22, none⟩ (.slice (some ⟨V1.heap.size, 0, none⟩) m.told.length m.told.length)).heap[w.heap.size]? = some (.cells (mC m (some ⟨gb, 0, none⟩) m.by'.length (.slice (some ⟨gs, 0, none⟩) sy.length sy.length) (some ⟨V1.heap.size, 0, none⟩) m.told.length) 29 (0, 0))) := hX4
      have HZ := Lib.hid ((oth (w.heap.size + 1) (by omega)).trans BZ2.out)
      have HRB := Lib.hid ((oth gb (by omega)).trans RB2.out)
      have HRS := Lib.hid ((oth gs (by omega)).trans RS2.out)
      have HRT := Lib.hid ((oth _ (by omega)).trans RT.out)
      have HBE := Lib.hid ((((BE2.out.setCell (p := ⟨w.heap.size, 19, none⟩) (Nat.le_refl _) (.int .i64 m.base)).setCell (p := ⟨w.heap.size, 20, none⟩) (Nat.le_refl _) (.slice (some ⟨gb, 0, none⟩) m.by'.length m.by'.length)).setCell (p := ⟨w.heap.size, 21, none⟩) (Nat.le_refl _) (.slice (some ⟨gs, 0, none⟩) sy.length sy.length)).setCell (p := ⟨w.heap.size, 22, none⟩) (Nat.le_refl _) (.slice (some ⟨V1.heap.size, 0, none⟩) m.told.length m.told.length))
      clear hX1 hX2 hX3 hX4 oth
      generalize ((((V2.setCell ⟨w.heap.size, 19, none⟩ (.int .i64 m.base)).setCell ⟨w.heap.size, 20, none⟩ (.slice (some ⟨gb, 0, none⟩) m.by'.length m.by'.length)).setCell ⟨w.heap.size, 21, none⟩ (.slice (some ⟨gs, 0, none⟩) sy.length sy.length)).setCell ⟨w.heap.size, 22, none⟩ (.slice (some ⟨V1.heap.size, 0, none⟩) m.told.length m.told.length)) = X at *
      generalize V1.heap.size = gt at *
      go_wp2_with (first | (refine wpList_load_row rfl 29 _ rfl w.heap.size rfl 29 (mC m (some ⟨gb, 0, none⟩) m.by'.length (.slice (some ⟨gs, 0, none⟩) sy.length sy.length) (some ⟨gt, 0, none⟩) m.told.length) (0, 0) _ HX.out Tryd.underlying29 rfl (mSize _ _ _ _ _ _) ?_) | (refine wpList_store_row rfl 29 _ _ rfl (w.heap.size + 1) (mC m (some ⟨gb, 0, none⟩) m.by'.length (.slice (some ⟨gs, 0, none⟩) sy.length sy.length) (some ⟨gt, 0, none⟩) m.told.length) rfl rfl 29 #[.int .i64 0, .int .i64 0, .int .i64 0, .int .i64 0, .int .i64 0, .int .i64 0, .int .i64 0, .int .i64 0, .int .i64 0, .int .i64 0, .int .i64 0, .int .i64 0, .int .i64 0, .int .i64 0, .int .i64 0, .int .i64 0, .bool false, .int .i64 0, .int .i64 0, .int .i64 0, .slice none 0 0, .slice none 0 0, .slice none 0 0, .int .i64 0] HZ.out (mSize _ _ _ _ _ _) rfl (mAll _ _ _ _ _ _ _ _) ?_) | fail)
      refine bodyPost_ret (v := .agg (mC m (some ⟨gb, 0, none⟩) m.by'.length (.slice (some ⟨gs, 0, none⟩) sy.length sy.length) (some ⟨gt, 0, none⟩) m.told.length)) (res_1 Tryd.results10 rfl (setRow_heap _ _ _ _ _ _ HZ.out) (mSize _ _ _ _ _ _)) rfl ⟨gb, gs, gt, rfl, below_setRow HBE.out (by omega) _, by omega, by omega, by omega, by omega, ?_, ?_, ?_⟩
      · rw [setRow_other _ _ _ _ (by omega)]; exact HRB.out
      · rw [setRow_other _ _ _ _ (by omega)]; exact HRS.out
      · rw [setRow_other _ _ _ _ (by omega)]; exact HRT.out
    · have x := cell_of_block (i := 22) BX0.out rfl
      go_simp
      refine hK.out _ _ trivial (fun hHeld => ?_)
      clear hK K x
      refine wpAnyH_ready (rs := [2]) (by kernel_rfl) (by simp) ?_
      refine AllReadyH.cons rfl (fun K hK => ?_) AllReadyH.nil
      go_simp
      refine (HIM.out V0 BE0.out).mono ?_
      rintro e V1 ⟨gb, gs, rfl, hb, hgb, hgs, hrb, hrs⟩
      have BX1 := Lib.hid ((hb.block _ (Array.getElem?_eq_some_iff.1 BX0.out).1).trans BX0.out)
      have BZ1 := Lib.hid ((hb.block _ (Array.getElem?_eq_some_iff.1 BZ0.out).1).trans BZ0.out)
      have RB1 := Lib.hid hrb
      have RS1 := Lib.hid hrs
      have BE1 := Lib.hid (BE0.out.trans (hb.mono BE0.out.size))
      have hz0 := (Array.getElem?_eq_some_iff.1 BZ0.out).1
      refine hK.out _ _ trivial (fun hHeld => ?_)
      clear hK K hb hrb hrs BX0 BZ0 BE0
      refine take_at 6 9 (v := ?_) rfl rfl (by kernel_rfl) (by kernel_rfl) (by kernel_rfl) (fun _ _ _ h => h) rfl ?_ hHeld ?_
      rotate_left
      · intro w hSw
        go_simp
        try with_reducible rfl
      simp only [List.setIfInBounds_toArray, List.set_cons_zero, List.set_cons_succ]
      refine wpAnyH_ready (rs := [5]) (by kernel_rfl) (by simp) ?_
      refine AllReadyH.cons rfl (fun K hK => ?_) AllReadyH.nil
      go_simp
      refine (HOT.out V1 BE1.out).mono ?_
      rintro e V2 ⟨rfl, hb, hrow⟩
      have BX2 := Lib.hid ((hb.block _ (Array.getElem?_eq_some_iff.1 BX1.out).1).trans BX1.out)
      have BZ2 := Lib.hid ((hb.block _ (Array.getElem?_eq_some_iff.1 BZ1.out).1).trans BZ1.out)
      have RB2 := Lib.hid ((hb.block _ (Array.getElem?_eq_some_iff.1 RB1.out).1).trans RB1.out)
      have RS2 := Lib.hid ((hb.block _ (Array.getElem?_eq_some_iff.1 RS1.out).1).trans RS1.out)
      have RT := Lib.hid hrow
      have BE2 := Lib.hid (BE1.out.trans (hb.mono BE1.out.size))
      have hb1 := (Array.getElem?_eq_some_iff.1 RB1.out).1
      have hb2 := (Array.getElem?_eq_some_iff.1 RS1.out).1
      refine hK.out _ _ trivial (fun hHeld => ?_)
      clear hK K hb hrow BX1 BZ1 BE1 RB1 RS1
      refine wpAnyH_ready (rs := [7]) (by kernel_rfl) (by simp) ?_
      refine AllReadyH.cons rfl (fun K hK => ?_) AllReadyH.nil
      have x0 := cell_of_block (i := 19) BX2.out rfl
      have x1 := cell_of_block (i := 20) BX2.out rfl
      have x2 := cell_of_block (i := 21) BX2.out rfl
      have f0 := blk_froz (i := 19) BX2.out
      have f1 := blk_froz (i := 20) BX2.out
      have f2 := blk_froz (i := 21) BX2.out
      go_simp
      refine hK.out _ _ trivial (fun hHeld => ?_)
      clear hK K x0 x1 x2 f0 f1 f2
      refine take_at 8 10 (v := ?_) rfl rfl (by kernel_rfl) (by kernel_rfl) (by kernel_rfl) (fun _ _ _ h => h) rfl ?_ hHeld ?_
      rotate_left
      · intro w hSw
        go_simp
        try with_reducible rfl
      simp only [List.setIfInBounds_toArray, List.set_cons_zero, List.set_cons_succ]
      refine wpAnyH_ready (rs := [9]) (by kernel_rfl) (by simp) ?_
      refine AllReadyH.cons rfl (fun K hK => ?_) AllReadyH.nil
      have hX1 := _root_.Go.heap_setCell_same V2 w.heap.size 19 _ 29 (.int .i64 m.base) BX2.out
      have hX2 := _root_.Go.heap_setCell_same _ w.heap.size 20 _ 29 (.slice (some ⟨gb, 0, none⟩) m.by'.length m.by'.length) hX1
      have hX3 := _root_.Go.heap_setCell_same _ w.heap.size 21 _ 29 (.slice (some ⟨gs, 0, none⟩) sy.length sy.length) hX2
      have x := cell_of_block (i := 22) hX3 rfl
      have xf := blk_froz (i := 22) hX3
      go_simp
      refine hK.out _ _ trivial (fun hHeld => ?_)
      clear hK K x xf hX1 hX2 hX3
      refine wpAnyH_done (by kernel_rfl) ?_ _
      refine NoPanic.normal ?_
      have hX1 := _root_.Go.heap_setCell_same V2 w.heap.size 19 _ 29 (.int .i64 m.base) BX2.out
      have hX2 := _root_.Go.heap_setCell_same _ w.heap.size 20 _ 29 (.slice (some ⟨gb, 0, none⟩) m.by'.length m.by'.length) hX1
      have hX3 := _root_.Go.heap_setCell_same _ w.heap.size 21 _ 29 (.slice (some ⟨gs, 0, none⟩) sy.length sy.length) hX2
      have hX4 := _root_.Go.heap_setCell_same _ w.heap.size 22 _ 29 (.slice (some ⟨V1.heap.size, 0, none⟩) m.told.length m.told.length) hX3
      have oth : ∀ q, q ≠ w.heap.size → ((((V2.setCell ⟨w.heap.size, 19, none⟩ (.int .i64 m.base)).setCell ⟨w.heap.size, 20, none⟩ (.slice (some ⟨gb, 0, none⟩) m.by'.length m.by'.length)).setCell ⟨w.heap.size, 21, none⟩ (.slice (some ⟨gs, 0, none⟩) sy.length sy.length)).setCell ⟨w.heap.size, 22, none⟩ (.slice (some ⟨V1.heap.size, 0, none⟩) m.told.length m.told.length)).heap[q]? = V2.heap[q]? := fun q hq => by rw [Below.heap_setCell _ _ _ _ (by exact hq), Below.heap_setCell _ _ _ _ (by exact hq), Below.heap_setCell _ _ _ _ (by exact hq), Below.heap_setCell _ _ _ _ (by exact hq)]
      have HX : Hid (((((V2.setCell ⟨w.heap.size, 19, none⟩ (.int .i64 m.base)).setCell ⟨w.heap.size, 20, none⟩ (.slice (some ⟨gb, 0, none⟩) m.by'.length m.by'.length)).setCell ⟨w.heap.size, 21, none⟩ (.slice (some ⟨gs, 0, none⟩) sy.length sy.length)).setCell ⟨w.heap.size, 22, none⟩ (.slice (some ⟨V1.heap.size, 0, none⟩) m.told.length m.told.length)).heap[w.heap.size]? = some (.cells (mC m (some ⟨gb, 0, none⟩) m.by'.length (.slice (some ⟨gs, 0, none⟩) sy.length sy.length) (some ⟨V1.heap.size, 0, none⟩) m.told.length) 29 (0, 0))) := hX4
      have HZ := Lib.hid ((oth (w.heap.size + 1) (by omega)).trans BZ2.out)
      have HRB := Lib.hid ((oth gb (by omega)).trans RB2.out)
      have HRS := Lib.hid ((oth gs (by omega)).trans RS2.out)
      have HRT := Lib.hid ((oth _ (by omega)).trans RT.out)
      have HBE := Lib.hid ((((BE2.out.setCell (p := ⟨w.heap.size, 19, none⟩) (Nat.le_refl _) (.int .i64 m.base)).setCell (p := ⟨w.heap.size, 20, none⟩) (Nat.le_refl _) (.slice (some ⟨gb, 0, none⟩) m.by'.length m.by'.length)).setCell (p := ⟨w.heap.size, 21, none⟩) (Nat.le_refl _) (.slice (some ⟨gs, 0, none⟩) sy.length sy.length)).setCell (p := ⟨w.heap.size, 22, none⟩) (Nat.le_refl _) (.slice (some ⟨V1.heap.size, 0, none⟩) m.told.length m.told.length))
      clear hX1 hX2 hX3 hX4 oth
      generalize ((((V2.setCell ⟨w.heap.size, 19, none⟩ (.int .i64 m.base)).setCell ⟨w.heap.size, 20, none⟩ (.slice (some ⟨gb, 0, none⟩) m.by'.length m.by'.length)).setCell ⟨w.heap.size, 21, none⟩ (.slice (some ⟨gs, 0, none⟩) sy.length sy.length)).setCell ⟨w.heap.size, 22, none⟩ (.slice (some ⟨V1.heap.size, 0, none⟩) m.told.length m.told.length)) = X at *
      generalize V1.heap.size = gt at *
      go_wp2_with (first | (refine wpList_load_row rfl 29 _ rfl w.heap.size rfl 29 (mC m (some ⟨gb, 0, none⟩) m.by'.length (.slice (some ⟨gs, 0, none⟩) sy.length sy.length) (some ⟨gt, 0, none⟩) m.told.length) (0, 0) _ HX.out Tryd.underlying29 rfl (mSize _ _ _ _ _ _) ?_) | (refine wpList_store_row rfl 29 _ _ rfl (w.heap.size + 1) (mC m (some ⟨gb, 0, none⟩) m.by'.length (.slice (some ⟨gs, 0, none⟩) sy.length sy.length) (some ⟨gt, 0, none⟩) m.told.length) rfl rfl 29 #[.int .i64 0, .int .i64 0, .int .i64 0, .int .i64 0, .int .i64 0, .int .i64 0, .int .i64 0, .int .i64 0, .int .i64 0, .int .i64 0, .int .i64 0, .int .i64 0, .int .i64 0, .int .i64 0, .int .i64 0, .int .i64 0, .bool false, .int .i64 0, .int .i64 0, .int .i64 0, .slice none 0 0, .slice none 0 0, .slice none 0 0, .int .i64 0] HZ.out (mSize _ _ _ _ _ _) rfl (mAll _ _ _ _ _ _ _ _) ?_) | fail)
      refine bodyPost_ret (v := .agg (mC m (some ⟨gb, 0, none⟩) m.by'.length (.slice (some ⟨gs, 0, none⟩) sy.length sy.length) (some ⟨gt, 0, none⟩) m.told.length)) (res_1 Tryd.results10 rfl (setRow_heap _ _ _ _ _ _ HZ.out) (mSize _ _ _ _ _ _)) rfl ⟨gb, gs, gt, rfl, below_setRow HBE.out (by omega) _, by omega, by omega, by omega, by omega, ?_, ?_, ?_⟩
      · rw [setRow_other _ _ _ _ (by omega)]; exact HRB.out
      · rw [setRow_other _ _ _ _ (by omega)]; exact HRS.out
      · rw [setRow_other _ _ _ _ (by omega)]; exact HRT.out
  · have x := cell_of_block (i := 22) BX0.out rfl
    go_simp
    refine hK.out _ _ trivial (fun hHeld => ?_)
    clear hK K x
    refine wpAnyH_ready (rs := [1]) (by kernel_rfl) (by simp) ?_
    refine AllReadyH.cons rfl (fun K hK => ?_) AllReadyH.nil
    have x0 := cell_of_block (i := 19) BX0.out rfl
    have x1 := cell_of_block (i := 20) BX0.out rfl
    have x2 := cell_of_block (i := 21) BX0.out rfl
    go_simp
    refine hK.out _ _ trivial (fun hHeld => ?_)
    clear hK K x0 x1 x2
    refine wpAnyH_ready (rs := [2]) (by kernel_rfl) (by simp) ?_
    refine AllReadyH.cons rfl (fun K hK => ?_) AllReadyH.nil
    go_simp
    refine (HIM.out V0 BE0.out).mono ?_
    rintro e V1 ⟨gb, gs, rfl, hb, hgb, hgs, hrb, hrs⟩
    have BX1 := Lib.hid ((hb.block _ (Array.getElem?_eq_some_iff.1 BX0.out).1).trans BX0.out)
    have BZ1 := Lib.hid ((hb.block _ (Array.getElem?_eq_some_iff.1 BZ0.out).1).trans BZ0.out)
    have RB1 := Lib.hid hrb
    have RS1 := Lib.hid hrs
    have BE1 := Lib.hid (BE0.out.trans (hb.mono BE0.out.size))
    have hz0 := (Array.getElem?_eq_some_iff.1 BZ0.out).1
    refine hK.out _ _ trivial (fun hHeld => ?_)
    clear hK K hb hrb hrs BX0 BZ0 BE0
    refine take_at 6 9 (v := ?_) rfl rfl (by kernel_rfl) (by kernel_rfl) (by kernel_rfl) (fun _ _ _ h => h) rfl ?_ hHeld ?_
    rotate_left
    · intro w hSw
      go_simp
      try with_reducible rfl
    simp only [List.setIfInBounds_toArray, List.set_cons_zero, List.set_cons_succ]
    refine wpAnyH_ready (rs := [5]) (by kernel_rfl) (by simp) ?_
    refine AllReadyH.cons rfl (fun K hK => ?_) AllReadyH.nil
    go_simp
    refine (HOT.out V1 BE1.out).mono ?_
    rintro e V2 ⟨rfl, hb, hrow⟩
    have BX2 := Lib.hid ((hb.block _ (Array.getElem?_eq_some_iff.1 BX1.out).1).trans BX1.out)
    have BZ2 := Lib.hid ((hb.block _ (Array.getElem?_eq_some_iff.1 BZ1.out).1).trans BZ1.out)
    have RB2 := Lib.hid ((hb.block _ (Array.getElem?_eq_some_iff.1 RB1.out).1).trans RB1.out)
    have RS2 := Lib.hid ((hb.block _ (Array.getElem?_eq_some_iff.1 RS1.out).1).trans RS1.out)
    have RT := Lib.hid hrow
    have BE2 := Lib.hid (BE1.out.trans (hb.mono BE1.out.size))
    have hb1 := (Array.getElem?_eq_some_iff.1 RB1.out).1
    have hb2 := (Array.getElem?_eq_some_iff.1 RS1.out).1
    refine hK.out _ _ trivial (fun hHeld => ?_)
    clear hK K hb hrow BX1 BZ1 BE1 RB1 RS1
    refine wpAnyH_ready (rs := [7]) (by kernel_rfl) (by simp) ?_
    refine AllReadyH.cons rfl (fun K hK => ?_) AllReadyH.nil
    have x0 := cell_of_block (i := 19) BX2.out rfl
    have x1 := cell_of_block (i := 20) BX2.out rfl
    have x2 := cell_of_block (i := 21) BX2.out rfl
    have f0 := blk_froz (i := 19) BX2.out
    have f1 := blk_froz (i := 20) BX2.out
    have f2 := blk_froz (i := 21) BX2.out
    go_simp
    refine hK.out _ _ trivial (fun hHeld => ?_)
    clear hK K x0 x1 x2 f0 f1 f2
    refine take_at 8 10 (v := ?_) rfl rfl (by kernel_rfl) (by kernel_rfl) (by kernel_rfl) (fun _ _ _ h => h) rfl ?_ hHeld ?_
    rotate_left
    · intro w hSw
      go_simp
      try with_reducible rfl
    simp only [List.setIfInBounds_toArray, List.set_cons_zero, List.set_cons_succ]
    refine wpAnyH_ready (rs := [9]) (by kernel_rfl) (by simp) ?_
    refine AllReadyH.cons rfl (fun K hK => ?_) AllReadyH.nil
    have hX1 := _root_.Go.heap_setCell_same V2 w.heap.size 19 _ 29 (.int .i64 m.base) BX2.out
    have hX2 := _root_.Go.heap_setCell_same _ w.heap.size 20 _ 29 (.slice (some ⟨gb, 0, none⟩) m.by'.length m.by'.length) hX1
    have hX3 := _root_.Go.heap_setCell_same _ w.heap.size 21 _ 29 (.slice (some ⟨gs, 0, none⟩) sy.length sy.length) hX2
    have x := cell_of_block (i := 22) hX3 rfl
    have xf := blk_froz (i := 22) hX3
    go_simp
    refine hK.out _ _ trivial (fun hHeld => ?_)
    clear hK K x xf hX1 hX2 hX3
    refine wpAnyH_done (by kernel_rfl) ?_ _
    refine NoPanic.normal ?_
    have hX1 := _root_.Go.heap_setCell_same V2 w.heap.size 19 _ 29 (.int .i64 m.base) BX2.out
    have hX2 := _root_.Go.heap_setCell_same _ w.heap.size 20 _ 29 (.slice (some ⟨gb, 0, none⟩) m.by'.length m.by'.length) hX1
    have hX3 := _root_.Go.heap_setCell_same _ w.heap.size 21 _ 29 (.slice (some ⟨gs, 0, none⟩) sy.length sy.length) hX2
    have hX4 := _root_.Go.heap_setCell_same _ w.heap.size 22 _ 29 (.slice (some ⟨V1.heap.size, 0, none⟩) m.told.length m.told.length) hX3
    have oth : ∀ q, q ≠ w.heap.size → ((((V2.setCell ⟨w.heap.size, 19, none⟩ (.int .i64 m.base)).setCell ⟨w.heap.size, 20, none⟩ (.slice (some ⟨gb, 0, none⟩) m.by'.length m.by'.length)).setCell ⟨w.heap.size, 21, none⟩ (.slice (some ⟨gs, 0, none⟩) sy.length sy.length)).setCell ⟨w.heap.size, 22, none⟩ (.slice (some ⟨V1.heap.size, 0, none⟩) m.told.length m.told.length)).heap[q]? = V2.heap[q]? := fun q hq => by rw [Below.heap_setCell _ _ _ _ (by exact hq), Below.heap_setCell _ _ _ _ (by exact hq), Below.heap_setCell _ _ _ _ (by exact hq), Below.heap_setCell _ _ _ _ (by exact hq)]
    have HX : Hid (((((V2.setCell ⟨w.heap.size, 19, none⟩ (.int .i64 m.base)).setCell ⟨w.heap.size, 20, none⟩ (.slice (some ⟨gb, 0, none⟩) m.by'.length m.by'.length)).setCell ⟨w.heap.size, 21, none⟩ (.slice (some ⟨gs, 0, none⟩) sy.length sy.length)).setCell ⟨w.heap.size, 22, none⟩ (.slice (some ⟨V1.heap.size, 0, none⟩) m.told.length m.told.length)).heap[w.heap.size]? = some (.cells (mC m (some ⟨gb, 0, none⟩) m.by'.length (.slice (some ⟨gs, 0, none⟩) sy.length sy.length) (some ⟨V1.heap.size, 0, none⟩) m.told.length) 29 (0, 0))) := hX4
    have HZ := Lib.hid ((oth (w.heap.size + 1) (by omega)).trans BZ2.out)
    have HRB := Lib.hid ((oth gb (by omega)).trans RB2.out)
    have HRS := Lib.hid ((oth gs (by omega)).trans RS2.out)
    have HRT := Lib.hid ((oth _ (by omega)).trans RT.out)
    have HBE := Lib.hid ((((BE2.out.setCell (p := ⟨w.heap.size, 19, none⟩) (Nat.le_refl _) (.int .i64 m.base)).setCell (p := ⟨w.heap.size, 20, none⟩) (Nat.le_refl _) (.slice (some ⟨gb, 0, none⟩) m.by'.length m.by'.length)).setCell (p := ⟨w.heap.size, 21, none⟩) (Nat.le_refl _) (.slice (some ⟨gs, 0, none⟩) sy.length sy.length)).setCell (p := ⟨w.heap.size, 22, none⟩) (Nat.le_refl _) (.slice (some ⟨V1.heap.size, 0, none⟩) m.told.length m.told.length))
    clear hX1 hX2 hX3 hX4 oth
    generalize ((((V2.setCell ⟨w.heap.size, 19, none⟩ (.int .i64 m.base)).setCell ⟨w.heap.size, 20, none⟩ (.slice (some ⟨gb, 0, none⟩) m.by'.length m.by'.length)).setCell ⟨w.heap.size, 21, none⟩ (.slice (some ⟨gs, 0, none⟩) sy.length sy.length)).setCell ⟨w.heap.size, 22, none⟩ (.slice (some ⟨V1.heap.size, 0, none⟩) m.told.length m.told.length)) = X at *
    generalize V1.heap.size = gt at *
    go_wp2_with (first | (refine wpList_load_row rfl 29 _ rfl w.heap.size rfl 29 (mC m (some ⟨gb, 0, none⟩) m.by'.length (.slice (some ⟨gs, 0, none⟩) sy.length sy.length) (some ⟨gt, 0, none⟩) m.told.length) (0, 0) _ HX.out Tryd.underlying29 rfl (mSize _ _ _ _ _ _) ?_) | (refine wpList_store_row rfl 29 _ _ rfl (w.heap.size + 1) (mC m (some ⟨gb, 0, none⟩) m.by'.length (.slice (some ⟨gs, 0, none⟩) sy.length sy.length) (some ⟨gt, 0, none⟩) m.told.length) rfl rfl 29 #[.int .i64 0, .int .i64 0, .int .i64 0, .int .i64 0, .int .i64 0, .int .i64 0, .int .i64 0, .int .i64 0, .int .i64 0, .int .i64 0, .int .i64 0, .int .i64 0, .int .i64 0, .int .i64 0, .int .i64 0, .int .i64 0, .bool false, .int .i64 0, .int .i64 0, .int .i64 0, .slice none 0 0, .slice none 0 0, .slice none 0 0, .int .i64 0] HZ.out (mSize _ _ _ _ _ _) rfl (mAll _ _ _ _ _ _ _ _) ?_) | fail)
    refine bodyPost_ret (v := .agg (mC m (some ⟨gb, 0, none⟩) m.by'.length (.slice (some ⟨gs, 0, none⟩) sy.length sy.length) (some ⟨gt, 0, none⟩) m.told.length)) (res_1 Tryd.results10 rfl (setRow_heap _ _ _ _ _ _ HZ.out) (mSize _ _ _ _ _ _)) rfl ⟨gb, gs, gt, rfl, below_setRow HBE.out (by omega) _, by omega, by omega, by omega, by omega, ?_, ?_, ?_⟩
    · rw [setRow_other _ _ _ _ (by omega)]; exact HRB.out
    · rw [setRow_other _ _ _ _ (by omega)]; exact HRS.out
    · rw [setRow_other _ _ _ _ (by omega)]; exact HRT.out

end Go.Proofs.YtabepbaldadmgaaDoor
