/- The contract of the document's own Bytes of an object. -/
import Derived.Test.YtobdcnpifbnjaacOrB
namespace Go.Proofs.Ytobdcnpifbnjaac
open Go.RowKit

set_option maxHeartbeats 2000000 in
theorem rbytes_bad (o : Ob) (cv sv rv : Value) (w : World) (hC : OBytes w cv o.code) (hS : OSyms w sv o.syms) (hR : ORels w rv o.rels) (hw : wrongO nameR o ≠ 0) :
    Calls Try.prog 5 #[obV cv sv rv] w fun e w' => e = .returned (.tuple #[.slice none 0 0, .int .i64 (wrongO nameR o)]) ∧ Below w.heap.size w w' := by
  have hcall := fun W (h : Below w.heap.size w W) => rwrong_any o cv sv rv W (hC.below h (Nat.le_refl _)) (hS.below h (Nat.le_refl _)) (hR.below h (Nat.le_refl _))
  have HC := Lib.hid hcall
  have h0 : (wrongO nameR o != 0) = true := bne_iff_ne.2 hw
  clear hcall hw
  obtain ⟨cad, ccap, rfl, z0, z1⟩ := hC
  obtain ⟨sad, scap, rfl, z2, z3⟩ := hS
  obtain ⟨rad, rcap, rfl, z4, z5⟩ := hR
  clear z0 z1 z2 z3 z4 z5
  unfold obV at *
  go_enter Try.func5, Try.ntmps5
  go_wp2_with (go_at_call 7; refine (HC.out _ (oalloc _ _)).mono ?_; rintro e w1 ⟨rfl, hb1⟩; have HB1 := Lib.hid ((oalloc w _).trans (hb1.mono (by simp))); clear hb1)
  go_ret2
  exact ⟨rfl, HB1.out⟩

set_option maxHeartbeats 16000000 in
set_option maxRecDepth 100000 in
theorem rbytes_good (o : Ob) (cv sv rv : Value) (w : World) (hC : OBytes w cv o.code) (hS : OSyms w sv o.syms) (hR : ORels w rv o.rels) (hw : wrongO nameR o = 0) :
    Calls Try.prog 5 #[obV cv sv rv] w fun e w' => ∃ v, e = .returned (.tuple #[v, .int .i64 0]) ∧ Below w.heap.size w w' ∧ Out w' (w.heap.size + 1) v (bytesO o) := by
  have hcall := fun W (h : Below w.heap.size w W) => rwrong_any o cv sv rv W (hC.below h (Nat.le_refl _)) (hS.below h (Nat.le_refl _)) (hR.below h (Nat.le_refl _))
  rw [hw] at hcall
  have HC := Lib.hid hcall
  have hw2 := hw
  unfold wrongO at hw2
  split at hw2
  · cases hw2
  rename_i hmany
  split at hw2
  case isFalse h => exact absurd hw2 h
  rename_i hsy
  have KS := Lib.hid (symsErr_ok _ _ hsy)
  have KR := Lib.hid (relsErr_ok _ 0 (by decide) hw2)
  have hc8 : o.code.length ≤ 8000 := by omega
  have hs8 : o.syms.length ≤ 255 := by omega
  have hr8 : o.rels.length ≤ 16000 := by omega
  have HSRC := Lib.hid hC.src
  have hent : ∀ args w, (callFunc 14 args).run Try.prog w = .ok (.enter 14 args) w := enters_of Try.func14 (by kernel_rfl) rfl
  clear hcall hw hw2 hsy hmany
  obtain ⟨cad, ccap, rfl, z0, z1⟩ := hC
  obtain ⟨sad, scap, rfl, z2, hsc⟩ := hS
  obtain ⟨rad, rcap, rfl, z4, hrc⟩ := hR
  have HSC := Lib.hid hsc
  have HRC := Lib.hid hrc
  have HSRC2 : Hid (SrcOf w cad o.code.length (bcells o.code)) := by
    obtain ⟨ad, cap, e, h⟩ := HSRC.out
    cases e
    exact h
  clear z0 z1 z2 z4 hsc hrc HSRC
  unfold obV at *
  go_enter Try.func5, Try.ntmps5
  go_wp2_with fail
  refine (HC.out _ (oalloc _ _)).mono ?_
  rintro e w1 ⟨rfl, hb1⟩
  have hz1 : w.heap.size < w1.heap.size := by have := hb1.size; simp at this; omega
  have HB1 : Hid (Below w.heap.size w w1 ∧ w1.heap[w.heap.size]? = some (.cells #[.slice cad o.code.length ccap, .slice sad o.syms.length scap, .slice rad o.rels.length rcap] 26 (0, 0))) := ⟨(oalloc w _).trans (hb1.mono (by simp)), by rw [hb1.block _ (by simp)]; exact heap_alloc_new w _⟩
  have q0 : w1.cell? ⟨w.heap.size, 0, none⟩ = some (.slice cad o.code.length ccap) := cell_of_block HB1.out.2 rfl
  clear hb1 HC
  have hcv := fun (w : World) (C : Array Value) (n c : Nat) => Lib.run_convert_bytes_const (P := Try.prog) w 22 5 C n c Try.underlying22 Try.underlying5
  go_wp2_with fail
  clear hcv
  refine (rn_any _ _ (by omega)).mono ?_
  rintro e w2 ⟨rfl, rfl⟩
  obtain ⟨W1, hW1⟩ : ∃ X, X = w1.alloc (.cells #[.int .u8 79, .int .u8 66, .int .u8 74] 5 (3, 4)) := ⟨_, rfl⟩
  have hz2 : W1.heap.size = w1.heap.size + 1 := by rw [hW1]; simp
  obtain ⟨v2, w2, happ, ho2, hg2⟩ := app_full (l := [79, 66, 74]) (w := W1.alloc (.cells (bcells (be4 o.code.length)).toArray 5)) (base := w.heap.size + 1) (g := w1.heap.size) (cur := #[.int .u8 79, .int .u8 66, .int .u8 74]) (fz := (3, 4)) (by rw [Below.heap_alloc _ _ _ (by omega), hW1]; exact heap_alloc_new w1 _) rfl (by simp; omega) ⟨W1.heap.size, 0, none⟩ 4 4 (be4 o.code.length) rfl (by decide) (fun j u hj => by
    rw [addr_add, Nat.zero_add]
    exact cell_of_block (heap_alloc_new W1 _) (by simpa using hj)) (by simp)
  have HBK2 : Hid (BK w w2 w.heap.size (.slice cad o.code.length ccap) (.slice sad o.syms.length scap) (.slice rad o.rels.length rcap) v2 ([79, 66, 74] ++ be4 o.code.length)) := by
    have hbW : Below w.heap.size w (W1.alloc (.cells (bcells (be4 o.code.length)).toArray 5)) := by rw [hW1]; exact (HB1.out.1.alloc (Nat.le_of_lt hz1) _).alloc (by simp; omega) _
    refine ⟨ho2, hbW.grown hg2 (by have := hbW.size; omega) (fun j hj => by cases hj), ?_⟩
    rw [hg2.block _ (by simp; omega) (by simp), Below.heap_alloc _ _ _ (by omega), hW1, Below.heap_alloc _ _ _ hz1]
    exact HB1.out.2
  have HA := Lib.hid happ
  rw [hW1] at HA
  simp only [World.size_alloc] at HA
  clear happ ho2 hg2 HB1 q0 hW1 hz2
  go_wp2_with (at_builtin; refine wpList_app_eq rfl _ _ _ _ rfl _ _ rfl rfl HA.out ?_)
  clear HA
  refine wp_region_noPanic ?_
  refine wp_region_held_drew (S := fun W => W.heap[w.heap.size]? = some (.cells #[.slice cad o.code.length ccap, .slice sad o.syms.length scap, .slice rad o.rels.length rcap] 26 (0, 0))) (by kernel_rfl) HBK2.out.box (fun hHeld => ?_)
  have HR0 : Hid (RK w w2.drew w.heap.size (.slice cad o.code.length ccap) (.slice sad o.syms.length scap) (.slice rad o.rels.length rcap) v2 ([79, 66, 74] ++ be4 o.code.length) w.heap.size #[.slice cad o.code.length ccap, .slice sad o.syms.length scap, .slice rad o.rels.length rcap] 26) := RK.grow ⟨HBK2.out, HBK2.out.box, by decide⟩ (Below.refl _ _).drew
  clear HBK2
  obtain ⟨v3, w3, happ, ho3, hg3⟩ := app_src HR0.out.bk.out (by simp) cad o.code.length ccap o.code rfl (HSRC2.out.below HR0.out.bk.bel (Nat.le_refl _)) (by simp [be4]; omega)
  have HR3 : Hid (RK w w3 w.heap.size (.slice cad o.code.length ccap) (.slice sad o.syms.length scap) (.slice rad o.rels.length rcap) v3 ([79, 66, 74] ++ be4 o.code.length ++ o.code) w.heap.size #[.slice cad o.code.length ccap, .slice sad o.syms.length scap, .slice rad o.rels.length rcap] 26) := ⟨HR0.out.bk.step ho3 hg3, HR0.out.bk.out.box hg3 HR0.out.bx HR0.out.bt, HR0.out.bt⟩
  have HA3 := Lib.hid happ
  clear happ ho3 hg3 HSRC2
  refine take_at 0 24 (v := ?_) rfl rfl (by kernel_rfl) (by kernel_rfl) (by kernel_rfl) (fun _ _ _ h => h) rfl ?_ hHeld ?_
  rotate_left
  · intro w hSw
    go_simp
    try with_reducible rfl
  simp only [List.setIfInBounds_toArray, List.set_cons_zero, List.set_cons_succ]
  refine take_at 1 25 (v := ?_) rfl rfl (by kernel_rfl) (by kernel_rfl) (by kernel_rfl) (fun _ _ _ h => h) rfl ?_ hHeld ?_
  rotate_left
  · intro w hSw
    go_simp
    try with_reducible rfl
  simp only [List.setIfInBounds_toArray, List.set_cons_zero, List.set_cons_succ]
  refine take_at 2 26 (v := ?_) rfl rfl (by kernel_rfl) (by kernel_rfl) (by kernel_rfl) (fun _ _ _ h => h) rfl ?_ hHeld ?_
  rotate_left
  · intro w hSw
    have x0 := cell_of_block (i := 0) hSw rfl
    have x1 := cell_of_block (i := 1) hSw rfl
    go_simp
    try with_reducible rfl
  simp only [List.setIfInBounds_toArray, List.set_cons_zero, List.set_cons_succ]
  refine take_at 4 28 (v := ?_) rfl rfl (by kernel_rfl) (by kernel_rfl) (by kernel_rfl) (fun _ _ _ h => h) rfl ?_ hHeld ?_
  rotate_left
  · intro w hSw
    go_simp
    try with_reducible rfl
  simp only [List.setIfInBounds_toArray, List.set_cons_zero, List.set_cons_succ]
  refine take_at 5 29 (v := ?_) rfl rfl (by kernel_rfl) (by kernel_rfl) (by kernel_rfl) (fun _ _ _ h => h) rfl ?_ hHeld ?_
  rotate_left
  · intro w hSw
    go_simp
    try with_reducible rfl
  simp only [List.setIfInBounds_toArray, List.set_cons_zero, List.set_cons_succ]
  refine take_at 6 30 (v := ?_) rfl rfl (by kernel_rfl) (by kernel_rfl) (by kernel_rfl) (fun _ _ _ h => h) rfl ?_ hHeld ?_
  rotate_left
  · intro w hSw
    have x0 := cell_of_block (i := 0) hSw rfl
    have x1 := cell_of_block (i := 1) hSw rfl
    go_simp
    try with_reducible rfl
  simp only [List.setIfInBounds_toArray, List.set_cons_zero, List.set_cons_succ]
  refine take_at 7 31 (v := ?_) rfl rfl (by kernel_rfl) (by kernel_rfl) (by kernel_rfl) (fun _ _ _ h => h) rfl ?_ hHeld ?_
  rotate_left
  · intro w hSw
    go_simp
    try with_reducible rfl
  simp only [List.setIfInBounds_toArray, List.set_cons_zero, List.set_cons_succ]
  refine wpAnyH_ready (rs := [3]) (by kernel_rfl) (by simp) ?_
  refine AllReadyH.cons rfl (fun K hK => ?_) AllReadyH.nil
  refine step_app_eq (by rfl) 27 (by rfl) _ _ _ _ (by rfl) _ _ (by rfl) (by rfl) HA3.out ?_
  simp only [List.setIfInBounds_toArray, List.set_cons_zero, List.set_cons_succ]
  refine hK.out _ _ HR3.out.bx (fun hHeld => ?_)
  clear hK K HA3 HR0
  refine wpAnyH_ready (rs := [8]) (by kernel_rfl) (by simp) ?_
  refine AllReadyH.cons rfl (fun K hK => ?_) AllReadyH.nil
  go_simp
  refine (rn_any _ _ (by omega)).mono ?_
  rintro e w4 ⟨rfl, rfl⟩
  have HR4 := Lib.hid (HR3.out.grow (oalloc w3 (.cells (bcells (be4 o.syms.length)).toArray 5)))
  have P4 := Lib.hid (pend_alloc HR3.out (c := (bcells (be4 o.syms.length)).toArray) (news := be4 o.syms.length) rfl)
  obtain ⟨v5, w5, happ, hr5, z⟩ := HR4.out.app 4 4 rfl P4.out (by simp [be4]; omega)
  have HR5 := Lib.hid hr5
  have HA5 := Lib.hid happ
  clear happ hr5 z P4
  refine hK.out _ _ HR4.out.bx (fun hHeld => ?_)
  clear hK K HR3 HR4
  refine wpAnyH_ready (rs := [9]) (by kernel_rfl) (by simp) ?_
  refine AllReadyH.cons rfl (fun K hK => ?_) AllReadyH.nil
  refine step_app_eq (by rfl) 33 (by rfl) _ _ _ _ (by rfl) _ _ (by rfl) (by rfl) HA5.out ?_
  simp only [List.setIfInBounds_toArray, List.set_cons_zero, List.set_cons_succ]
  refine hK.out _ _ HR5.out.bx (fun hHeld => ?_)
  clear hK K HA5
  refine wpAnyH_ready (rs := [10]) (by kernel_rfl) (by simp) ?_
  refine AllReadyH.cons rfl (fun K hK => ?_) AllReadyH.nil
  go_simp
  refine hK.out _ _ HR5.out.bx (fun hHeld => ?_)
  clear hK K
  refine wpAnyH_done (by kernel_rfl) ?_ _
  refine NoPanic.normal ?_
  have HBK4 : Hid (BK w w5 w.heap.size (.slice cad o.code.length ccap) (.slice sad o.syms.length scap) (.slice rad o.rels.length rcap) v5 (preS o)) := by
    have := HR5.out.bk
    unfold Hid
    simpa [preS] using this
  have HL4 : Hid ((preS o).length ≤ 8011) := by unfold Hid; simp [preS, be4]; omega
  obtain ⟨u0, u1, u2⟩ := HBK4.out.cells
  clear HR5 hHeld
  go_wp2
  go_loopw [6, 37] (fun v i wr => ∃ k : Nat, k ≤ o.syms.length ∧ i = .int .i64 k ∧ Hid (BK w wr w.heap.size (.slice cad o.code.length ccap) (.slice sad o.syms.length scap) (.slice rad o.rels.length rcap) v (preS o ++ (o.syms.take k).flatMap symB)) ∧ Hid ((preS o ++ (o.syms.take k).flatMap symB).length ≤ 8011 + k * 15)) (fun _ i _ => o.syms.length - (intOf i).toNat)
  case atStart => exact ⟨0, Nat.zero_le _, rfl, by simpa using HBK4, by simpa using HL4⟩
  case round =>
    obtain ⟨k, hk, rfl, HBK, HL⟩ := hrel
    clear HBK4 HL4 u0 u1 u2
    by_cases hlt : k < o.syms.length
    · have hk1 : (k : Int) < o.syms.length := by omega
      obtain ⟨b, f, rfl, hbl, hcell⟩ := HSC.out (by omega)
      obtain ⟨c0, c1⟩ := hcell k hlt
      rw [← HBK.out.bel.cell (by exact hbl)] at c0 c1
      obtain ⟨s, hs⟩ : ∃ s, s = o.syms[k] := ⟨_, rfl⟩
      rw [← hs] at c0 c1
      have HS := Lib.hid hs
      have hks := KS.out s (hs ▸ List.getElem_mem hlt)
      have hnl := nameR_len hks.1
      obtain ⟨_, hp0, hp1⟩ := hks
      clear hcell hs
      have HL6 : Hid ((preS o ++ (o.syms.take (k + 1)).flatMap symB).length ≤ 8011 + (k + 1) * 15) := by
        have := HL.out
        unfold Hid
        rw [flat_take _ _ _ hlt, ← HS.out]
        simp only [List.length_append, symB, List.length_cons, be4_len] at *
        omega
      have HFIN : Hid (∀ W v', BK w W w.heap.size (.slice cad o.code.length ccap) (.slice (some ⟨b, f, none⟩) o.syms.length scap) (.slice rad o.rels.length rcap) v' (preS o ++ (o.syms.take k).flatMap symB ++ [lowB s.name.length] ++ s.name ++ be4 s.pos) → BK w W w.heap.size (.slice cad o.code.length ccap) (.slice (some ⟨b, f, none⟩) o.syms.length scap) (.slice rad o.rels.length rcap) v' (preS o ++ (o.syms.take (k + 1)).flatMap symB)) := fun W v' h => by
        rw [flat_take _ _ _ hlt, ← HS.out]
        simpa [symB] using h
      generalize preS o ++ (o.syms.take k).flatMap symB = l0 at *
      have hL := HL.out
      have HRa : Hid (RK w (wr.alloc (.cells #[.string ⟨s.name.toArray⟩, .int .i64 s.pos] 38)).drew w.heap.size (.slice cad o.code.length ccap) (.slice (some ⟨b, f, none⟩) o.syms.length scap) (.slice rad o.rels.length rcap) u6 l0 wr.heap.size #[.string ⟨s.name.toArray⟩, .int .i64 s.pos] 38) :=
        RK.grow ⟨HBK.out.alloc (.cells #[.string ⟨s.name.toArray⟩, .int .i64 s.pos] 38), heap_alloc_new wr _, by decide⟩ (Below.refl _ _).drew
      have hbx : (wr.alloc (.cells #[.string ⟨s.name.toArray⟩, .int .i64 s.pos] 38)).drew.heap[wr.heap.size]? = some (.cells #[.string ⟨s.name.toArray⟩, .int .i64 s.pos] 38 (0, 0)) := HRa.out.bx
      have HBX := Lib.hid hbx
      clear HBK HL hbx
      have hcs := fun (W : World) => Lib.run_convert_string_bytes (P := Try.prog) W 9 22 5 ⟨s.name.toArray⟩ Try.underlying9 Try.underlying22 Try.underlying5
      have hsz : (⟨s.name.toArray⟩ : ByteArray).size = s.name.length := by simp [ByteArray.size]
      rw [hsz] at hcs
      go_wp2_with fail
      clear c0 c1
      refine wp_region_noPanic ?_
      refine wp_region_held_drew (S := fun W => W.heap[wr.heap.size]? = some (.cells #[.string ⟨s.name.toArray⟩, .int .i64 s.pos] 38 (0, 0))) (by kernel_rfl) HBX.out (fun hHeld => ?_)
      obtain ⟨W0, hW0⟩ : ∃ X, X = (wr.alloc (.cells #[.string ⟨s.name.toArray⟩, .int .i64 s.pos] 38)).drew := ⟨_, rfl⟩
      rw [← hW0] at HRa hHeld ⊢
      clear hW0 HBX
      refine take_at 0 41 (v := ?_) rfl rfl (by kernel_rfl) (by kernel_rfl) (by kernel_rfl) (fun _ _ _ h => h) rfl ?_ hHeld ?_
      rotate_left
      · intro w hSw
        go_simp
        try with_reducible rfl
      simp only [List.setIfInBounds_toArray, List.set_cons_zero, List.set_cons_succ]
      refine take_at 1 42 (v := ?_) rfl rfl (by kernel_rfl) (by kernel_rfl) (by kernel_rfl) (fun _ _ _ h => h) rfl ?_ hHeld ?_
      rotate_left
      · intro w hSw
        go_simp
        try with_reducible rfl
      simp only [List.setIfInBounds_toArray, List.set_cons_zero, List.set_cons_succ]
      refine take_at 2 43 (v := ?_) rfl rfl (by kernel_rfl) (by kernel_rfl) (by kernel_rfl) (fun _ _ _ h => h) rfl ?_ hHeld ?_
      rotate_left
      · intro w hSw
        have x0 := cell_of_block (i := 0) hSw rfl
        have x1 := cell_of_block (i := 1) hSw rfl
        go_simp
        try with_reducible rfl
      simp only [List.setIfInBounds_toArray, List.set_cons_zero, List.set_cons_succ]
      refine take_at 3 44 (v := ?_) rfl rfl (by kernel_rfl) (by kernel_rfl) (by kernel_rfl) (fun _ _ _ h => h) rfl ?_ hHeld ?_
      rotate_left
      · intro w hSw
        go_simp
        try with_reducible rfl
      simp only [List.setIfInBounds_toArray, List.set_cons_zero, List.set_cons_succ]
      refine take_at 4 45 (v := ?_) rfl rfl (by kernel_rfl) (by kernel_rfl) (by kernel_rfl) (fun _ _ _ h => h) rfl ?_ hHeld ?_
      rotate_left
      · intro w hSw
        go_simp
        try with_reducible rfl
      simp only [List.setIfInBounds_toArray, List.set_cons_zero, List.set_cons_succ]
      refine take_at 7 48 (v := ?_) rfl rfl (by kernel_rfl) (by kernel_rfl) (by kernel_rfl) (fun _ _ _ h => h) rfl ?_ hHeld ?_
      rotate_left
      · intro w hSw
        go_simp
        try with_reducible rfl
      simp only [List.setIfInBounds_toArray, List.set_cons_zero, List.set_cons_succ]
      refine take_at 8 49 (v := ?_) rfl rfl (by kernel_rfl) (by kernel_rfl) (by kernel_rfl) (fun _ _ _ h => h) rfl ?_ hHeld ?_
      rotate_left
      · intro w hSw
        have x0 := cell_of_block (i := 0) hSw rfl
        have x1 := cell_of_block (i := 1) hSw rfl
        go_simp
        try with_reducible rfl
      simp only [List.setIfInBounds_toArray, List.set_cons_zero, List.set_cons_succ]
      refine take_at 11 52 (v := ?_) rfl rfl (by kernel_rfl) (by kernel_rfl) (by kernel_rfl) (fun _ _ _ h => h) rfl ?_ hHeld ?_
      rotate_left
      · intro w hSw
        go_simp
        try with_reducible rfl
      simp only [List.setIfInBounds_toArray, List.set_cons_zero, List.set_cons_succ]
      refine take_at 12 53 (v := ?_) rfl rfl (by kernel_rfl) (by kernel_rfl) (by kernel_rfl) (fun _ _ _ h => h) rfl ?_ hHeld ?_
      rotate_left
      · intro w hSw
        go_simp
        try with_reducible rfl
      simp only [List.setIfInBounds_toArray, List.set_cons_zero, List.set_cons_succ]
      refine take_at 13 54 (v := ?_) rfl rfl (by kernel_rfl) (by kernel_rfl) (by kernel_rfl) (fun _ _ _ h => h) rfl ?_ hHeld ?_
      rotate_left
      · intro w hSw
        have x0 := cell_of_block (i := 0) hSw rfl
        have x1 := cell_of_block (i := 1) hSw rfl
        go_simp
        try with_reducible rfl
      simp only [List.setIfInBounds_toArray, List.set_cons_zero, List.set_cons_succ]
      refine wpAnyH_ready (rs := [5, 9]) (by kernel_rfl) (by simp) ?_
      refine AllReadyH.cons rfl (fun K hK => ?_) (AllReadyH.cons rfl (fun K hK => ?_) AllReadyH.nil)
      · go_simp
        generalize hWn : World.alloc W0 _ = W1
        have HR1 := Lib.hid (HRa.out.grow (W' := W1) (by rw [← hWn]; exact oalloc _ _))
        have P5_1 : Hid (Pend W1 u6 W0.heap.size [lowB s.name.length]) := by unfold Hid; rw [← hWn]; exact pend_alloc HRa.out (by simp [bcells, lowB_nat, IntKind.wrap_u8])
        refine hK.out _ _ HR1.out.bx (fun hHeld => ?_)
        clear hK K hWn HRa 
        refine wpAnyH_ready (rs := [6, 9]) (by kernel_rfl) (by simp) ?_
        refine AllReadyH.cons rfl (fun K hK => ?_) (AllReadyH.cons rfl (fun K hK => ?_) AllReadyH.nil)
        · obtain ⟨v2, W2, happ, hrn, hpn⟩ := HR1.out.app (1) (1) (rfl) P5_1.out (by omega)
          have HA := Lib.hid happ
          have HR2 := Lib.hid hrn
          clear happ hrn hpn P5_1
          refine step_app_eq (by rfl) 47 (by rfl) _ _ _ _ (by rfl) _ _ (by rfl) (by rfl) HA.out ?_
          simp only [List.setIfInBounds_toArray, List.set_cons_zero, List.set_cons_succ]
          refine hK.out _ _ HR2.out.bx (fun hHeld => ?_)
          clear hK K HA HR1
          refine wpAnyH_ready (rs := [9]) (by kernel_rfl) (by simp) ?_
          refine AllReadyH.cons rfl (fun K hK => ?_) AllReadyH.nil
          go_simp
          generalize hWn : Lib.bytesWorld W2 _ _ = W3
          have HR3 := Lib.hid (HR2.out.grow (W' := W3) (by rw [← hWn]; exact below_bytes _ _))
          have P9_3 : Hid (Pend W3 v2 W2.heap.size s.name) := by unfold Hid; rw [← hWn]; exact pend_bytes HR2.out _
          refine hK.out _ _ HR3.out.bx (fun hHeld => ?_)
          clear hK K hWn HR2 
          refine wpAnyH_ready (rs := [10]) (by kernel_rfl) (by simp) ?_
          refine AllReadyH.cons rfl (fun K hK => ?_) AllReadyH.nil
          obtain ⟨v4, W4, happ, hrn, hpn⟩ := HR3.out.app (s.name.length) (grownCap W2 s.name.length 0 5) (rfl) P9_3.out (by simp only [List.length_append, List.length_cons, List.length_nil]; omega)
          have HA := Lib.hid happ
          have HR4 := Lib.hid hrn
          clear happ hrn hpn P9_3
          refine step_app_eq (by rfl) 51 (by rfl) _ _ _ _ (by rfl) _ _ (by rfl) (by rfl) HA.out ?_
          simp only [List.setIfInBounds_toArray, List.set_cons_zero, List.set_cons_succ]
          refine hK.out _ _ HR4.out.bx (fun hHeld => ?_)
          clear hK K HA HR3
          refine wpAnyH_ready (rs := [14]) (by kernel_rfl) (by simp) ?_
          refine AllReadyH.cons rfl (fun K hK => ?_) AllReadyH.nil
          go_simp
          refine (rn_any _ _ (by omega)).mono ?_
          rintro e W5 ⟨rfl, hWq⟩
          have hWn := hWq.symm
          clear hWq
          have HR5 := Lib.hid (HR4.out.grow (W' := W5) (by rw [← hWn]; exact oalloc _ _))
          have P14_5 : Hid (Pend W5 v4 W4.heap.size (be4 s.pos)) := by unfold Hid; rw [← hWn]; exact pend_alloc HR4.out rfl
          refine hK.out _ _ HR5.out.bx (fun hHeld => ?_)
          clear hK K hWn HR4 
          refine wpAnyH_ready (rs := [15]) (by kernel_rfl) (by simp) ?_
          refine AllReadyH.cons rfl (fun K hK => ?_) AllReadyH.nil
          obtain ⟨v6, W6, happ, hrn, hpn⟩ := HR5.out.app (4) (4) (rfl) P14_5.out (by simp only [List.length_append, List.length_cons, List.length_nil]; omega)
          have HA := Lib.hid happ
          have HR6 := Lib.hid hrn
          clear happ hrn hpn P14_5
          refine step_app_eq (by rfl) 56 (by rfl) _ _ _ _ (by rfl) _ _ (by rfl) (by rfl) HA.out ?_
          simp only [List.setIfInBounds_toArray, List.set_cons_zero, List.set_cons_succ]
          refine hK.out _ _ HR6.out.bx (fun hHeld => ?_)
          clear hK K HA HR5
          refine wpAnyH_ready (rs := [16]) (by kernel_rfl) (by simp) ?_
          refine AllReadyH.cons rfl (fun K hK => ?_) AllReadyH.nil
          go_simp
          refine hK.out _ _ HR6.out.bx (fun hHeld => ?_)
          clear hK K
          refine wpAnyH_done (by kernel_rfl) ?_ _
          refine NoPanic.normal ?_
          have HBK6 := Lib.hid (HFIN.out W6 v6 (by have := HR6.out.bk; simpa using this))
          clear HR6 HFIN hHeld
          go_wp2
          exact ⟨⟨k + 1, by omega, by go_num, HBK6, HL6⟩, by simp [intOf]; omega⟩
        · go_simp
          generalize hWn : Lib.bytesWorld W1 _ _ = W8
          have HR8 := Lib.hid (HR1.out.grow (W' := W8) (by rw [← hWn]; exact below_bytes _ _))
          have P5_8 := Lib.hid (P5_1.out.grow (W' := W8) (by rw [← hWn]; exact below_bytes _ _))
          have P9_8 : Hid (Pend W8 u6 W1.heap.size s.name) := by unfold Hid; rw [← hWn]; exact pend_bytes HR1.out _
          refine hK.out _ _ HR8.out.bx (fun hHeld => ?_)
          clear hK K hWn HR1 P5_1
          refine wpAnyH_ready (rs := [6]) (by kernel_rfl) (by simp) ?_
          refine AllReadyH.cons rfl (fun K hK => ?_) AllReadyH.nil
          obtain ⟨v9, W9, happ, hrn, hpn⟩ := HR8.out.app (1) (1) (rfl) P5_8.out (by omega)
          have HA := Lib.hid happ
          have HR9 := Lib.hid hrn
          have P9_9 := Lib.hid (hpn _ _ P9_8.out)
          clear happ hrn hpn P5_8 P9_8
          refine step_app_eq (by rfl) 47 (by rfl) _ _ _ _ (by rfl) _ _ (by rfl) (by rfl) HA.out ?_
          simp only [List.setIfInBounds_toArray, List.set_cons_zero, List.set_cons_succ]
          refine hK.out _ _ HR9.out.bx (fun hHeld => ?_)
          clear hK K HA HR8
          refine wpAnyH_ready (rs := [10]) (by kernel_rfl) (by simp) ?_
          refine AllReadyH.cons rfl (fun K hK => ?_) AllReadyH.nil
          obtain ⟨v10, W10, happ, hrn, hpn⟩ := HR9.out.app (s.name.length) (grownCap W1 s.name.length 0 5) (rfl) P9_9.out (by simp only [List.length_append, List.length_cons, List.length_nil]; omega)
          have HA := Lib.hid happ
          have HR10 := Lib.hid hrn
          clear happ hrn hpn P9_9
          refine step_app_eq (by rfl) 51 (by rfl) _ _ _ _ (by rfl) _ _ (by rfl) (by rfl) HA.out ?_
          simp only [List.setIfInBounds_toArray, List.set_cons_zero, List.set_cons_succ]
          refine hK.out _ _ HR10.out.bx (fun hHeld => ?_)
          clear hK K HA HR9
          refine wpAnyH_ready (rs := [14]) (by kernel_rfl) (by simp) ?_
          refine AllReadyH.cons rfl (fun K hK => ?_) AllReadyH.nil
          go_simp
          refine (rn_any _ _ (by omega)).mono ?_
          rintro e W11 ⟨rfl, hWq⟩
          have hWn := hWq.symm
          clear hWq
          have HR11 := Lib.hid (HR10.out.grow (W' := W11) (by rw [← hWn]; exact oalloc _ _))
          have P14_11 : Hid (Pend W11 v10 W10.heap.size (be4 s.pos)) := by unfold Hid; rw [← hWn]; exact pend_alloc HR10.out rfl
          refine hK.out _ _ HR11.out.bx (fun hHeld => ?_)
          clear hK K hWn HR10 
          refine wpAnyH_ready (rs := [15]) (by kernel_rfl) (by simp) ?_
          refine AllReadyH.cons rfl (fun K hK => ?_) AllReadyH.nil
          obtain ⟨v12, W12, happ, hrn, hpn⟩ := HR11.out.app (4) (4) (rfl) P14_11.out (by simp only [List.length_append, List.length_cons, List.length_nil]; omega)
          have HA := Lib.hid happ
          have HR12 := Lib.hid hrn
          clear happ hrn hpn P14_11
          refine step_app_eq (by rfl) 56 (by rfl) _ _ _ _ (by rfl) _ _ (by rfl) (by rfl) HA.out ?_
          simp only [List.setIfInBounds_toArray, List.set_cons_zero, List.set_cons_succ]
          refine hK.out _ _ HR12.out.bx (fun hHeld => ?_)
          clear hK K HA HR11
          refine wpAnyH_ready (rs := [16]) (by kernel_rfl) (by simp) ?_
          refine AllReadyH.cons rfl (fun K hK => ?_) AllReadyH.nil
          go_simp
          refine hK.out _ _ HR12.out.bx (fun hHeld => ?_)
          clear hK K
          refine wpAnyH_done (by kernel_rfl) ?_ _
          refine NoPanic.normal ?_
          have HBK6 := Lib.hid (HFIN.out W12 v12 (by have := HR12.out.bk; simpa using this))
          clear HR12 HFIN hHeld
          go_wp2
          exact ⟨⟨k + 1, by omega, by go_num, HBK6, HL6⟩, by simp [intOf]; omega⟩
      · go_simp
        generalize hWn : Lib.bytesWorld W0 _ _ = W14
        have HR14 := Lib.hid (HRa.out.grow (W' := W14) (by rw [← hWn]; exact below_bytes _ _))
        have P9_14 : Hid (Pend W14 u6 W0.heap.size s.name) := by unfold Hid; rw [← hWn]; exact pend_bytes HRa.out _
        refine hK.out _ _ HR14.out.bx (fun hHeld => ?_)
        clear hK K hWn HRa 
        refine wpAnyH_ready (rs := [5]) (by kernel_rfl) (by simp) ?_
        refine AllReadyH.cons rfl (fun K hK => ?_) AllReadyH.nil
        go_simp
        generalize hWn : World.alloc W14 _ = W15
        have HR15 := Lib.hid (HR14.out.grow (W' := W15) (by rw [← hWn]; exact oalloc _ _))
        have P9_15 := Lib.hid (P9_14.out.grow (W' := W15) (by rw [← hWn]; exact oalloc _ _))
        have P5_15 : Hid (Pend W15 u6 W14.heap.size [lowB s.name.length]) := by unfold Hid; rw [← hWn]; exact pend_alloc HR14.out (by simp [bcells, lowB_nat, IntKind.wrap_u8])
        refine hK.out _ _ HR15.out.bx (fun hHeld => ?_)
        clear hK K hWn HR14 P9_14
        refine wpAnyH_ready (rs := [6]) (by kernel_rfl) (by simp) ?_
        refine AllReadyH.cons rfl (fun K hK => ?_) AllReadyH.nil
        obtain ⟨v16, W16, happ, hrn, hpn⟩ := HR15.out.app (1) (1) (rfl) P5_15.out (by omega)
        have HA := Lib.hid happ
        have HR16 := Lib.hid hrn
        have P9_16 := Lib.hid (hpn _ _ P9_15.out)
        clear happ hrn hpn P9_15 P5_15
        refine step_app_eq (by rfl) 47 (by rfl) _ _ _ _ (by rfl) _ _ (by rfl) (by rfl) HA.out ?_
        simp only [List.setIfInBounds_toArray, List.set_cons_zero, List.set_cons_succ]
        refine hK.out _ _ HR16.out.bx (fun hHeld => ?_)
        clear hK K HA HR15
        refine wpAnyH_ready (rs := [10]) (by kernel_rfl) (by simp) ?_
        refine AllReadyH.cons rfl (fun K hK => ?_) AllReadyH.nil
        obtain ⟨v17, W17, happ, hrn, hpn⟩ := HR16.out.app (s.name.length) (grownCap W0 s.name.length 0 5) (rfl) P9_16.out (by simp only [List.length_append, List.length_cons, List.length_nil]; omega)
        have HA := Lib.hid happ
        have HR17 := Lib.hid hrn
        clear happ hrn hpn P9_16
        refine step_app_eq (by rfl) 51 (by rfl) _ _ _ _ (by rfl) _ _ (by rfl) (by rfl) HA.out ?_
        simp only [List.setIfInBounds_toArray, List.set_cons_zero, List.set_cons_succ]
        refine hK.out _ _ HR17.out.bx (fun hHeld => ?_)
        clear hK K HA HR16
        refine wpAnyH_ready (rs := [14]) (by kernel_rfl) (by simp) ?_
        refine AllReadyH.cons rfl (fun K hK => ?_) AllReadyH.nil
        go_simp
        refine (rn_any _ _ (by omega)).mono ?_
        rintro e W18 ⟨rfl, hWq⟩
        have hWn := hWq.symm
        clear hWq
        have HR18 := Lib.hid (HR17.out.grow (W' := W18) (by rw [← hWn]; exact oalloc _ _))
        have P14_18 : Hid (Pend W18 v17 W17.heap.size (be4 s.pos)) := by unfold Hid; rw [← hWn]; exact pend_alloc HR17.out rfl
        refine hK.out _ _ HR18.out.bx (fun hHeld => ?_)
        clear hK K hWn HR17 
        refine wpAnyH_ready (rs := [15]) (by kernel_rfl) (by simp) ?_
        refine AllReadyH.cons rfl (fun K hK => ?_) AllReadyH.nil
        obtain ⟨v19, W19, happ, hrn, hpn⟩ := HR18.out.app (4) (4) (rfl) P14_18.out (by simp only [List.length_append, List.length_cons, List.length_nil]; omega)
        have HA := Lib.hid happ
        have HR19 := Lib.hid hrn
        clear happ hrn hpn P14_18
        refine step_app_eq (by rfl) 56 (by rfl) _ _ _ _ (by rfl) _ _ (by rfl) (by rfl) HA.out ?_
        simp only [List.setIfInBounds_toArray, List.set_cons_zero, List.set_cons_succ]
        refine hK.out _ _ HR19.out.bx (fun hHeld => ?_)
        clear hK K HA HR18
        refine wpAnyH_ready (rs := [16]) (by kernel_rfl) (by simp) ?_
        refine AllReadyH.cons rfl (fun K hK => ?_) AllReadyH.nil
        go_simp
        refine hK.out _ _ HR19.out.bx (fun hHeld => ?_)
        clear hK K
        refine wpAnyH_done (by kernel_rfl) ?_ _
        refine NoPanic.normal ?_
        have HBK6 := Lib.hid (HFIN.out W19 v19 (by have := HR19.out.bk; simpa using this))
        clear HR19 HFIN hHeld
        go_wp2
        exact ⟨⟨k + 1, by omega, by go_num, HBK6, HL6⟩, by simp [intOf]; omega⟩
    · have hk1 : ¬ (k : Int) < o.syms.length := by omega
      have hke : o.syms.take k = o.syms := List.take_of_length_le (by omega)
      rw [hke] at HBK HL
      obtain ⟨u0, u1, u2⟩ := HBK.out.cells
      clear hke HSC KS
      have HR0 : Hid (RK w wr w.heap.size (.slice cad o.code.length ccap) (.slice sad o.syms.length scap) (.slice rad o.rels.length rcap) u6 (preS o ++ o.syms.flatMap symB) w.heap.size #[.slice cad o.code.length ccap, .slice sad o.syms.length scap, .slice rad o.rels.length rcap] 26) := ⟨HBK.out, HBK.out.box, by decide⟩
      have hL := HL.out
      obtain ⟨v5, w5, happ, hr5, z⟩ := (HR0.out.grow (oalloc wr (.cells (bcells (be4 o.rels.length)).toArray 5))).app 4 4 rfl (pend_alloc HR0.out (c := (bcells (be4 o.rels.length)).toArray) (news := be4 o.rels.length) rfl) (by omega)
      have HA := Lib.hid happ
      have HBK5 : Hid (BK w w5 w.heap.size (.slice cad o.code.length ccap) (.slice sad o.syms.length scap) (.slice rad o.rels.length rcap) v5 (preR o)) := by
        have := hr5.bk
        unfold Hid
        simpa [preR] using this
      have HL5 : Hid ((preR o).length ≤ 12000) := by
        unfold Hid
        simp only [preR, List.length_append, be4_len] at *
        omega
      clear happ hr5 z HR0 HBK HL hL
      go_wp2_with fail
      refine (rn_any _ _ (by omega)).mono ?_
      rintro e wq ⟨rfl, rfl⟩
      obtain ⟨x0, x1, x2⟩ := HBK5.out.cells
      clear u0 u1 u2
      go_wp2_with (at_builtin; refine wpList_app_eq rfl _ _ _ _ rfl _ _ rfl rfl HA.out ?_)
      clear HA
      go_loopw [6, 68] (fun v i wr => ∃ k : Nat, k ≤ o.rels.length ∧ i = .int .i64 k ∧ Hid (BK w wr w.heap.size (.slice cad o.code.length ccap) (.slice sad o.syms.length scap) (.slice rad o.rels.length rcap) v (preR o ++ (o.rels.take k).flatMap relB)) ∧ Hid ((preR o ++ (o.rels.take k).flatMap relB).length ≤ 12000 + k * 20)) (fun _ i _ => o.rels.length - (intOf i).toNat)
      case atStart => exact ⟨0, Nat.zero_le _, rfl, by simpa using HBK5, by simpa using HL5⟩
      case round =>
        obtain ⟨k, hk, rfl, HBK, HL⟩ := hrel
        clear HBK5 HL5 x0 x1 x2
        by_cases hlt : k < o.rels.length
        · have hk1 : (k : Int) < o.rels.length := by omega
          obtain ⟨b, f, rfl, hbl, hcell⟩ := HRC.out (by omega)
          obtain ⟨c0, c1, c2, c3⟩ := hcell k hlt
          rw [← HBK.out.bel.cell (by exact hbl)] at c0 c1 c2 c3
          obtain ⟨s, hs⟩ : ∃ s, s = o.rels[k] := ⟨_, rfl⟩
          rw [← hs] at c0 c1 c2 c3
          have HS := Lib.hid hs
          have hkr := KR.out s (hs ▸ List.getElem_mem hlt)
          have hnl : s.name.length ≤ 10 := by
            rcases hkr.2.2.2.1 with h | h
            · rw [h]; decide
            · exact nameR_len h
          have hp0 : 0 ≤ s.pos := hkr.2.1
          have hp1 : s.pos ≤ 8000 := hkr.2.2.1
          have HADD : Hid (-9223372036854775808 ≤ s.add ∧ s.add ≤ 9223372036854775807) := by
            have h := hkr.2.2.2.2
            unfold wrap32 at h
            exact ⟨by omega, by omega⟩
          clear hcell hs hkr
          have HL8 : Hid ((preR o ++ (o.rels.take (k + 1)).flatMap relB).length ≤ 12000 + (k + 1) * 20) := by
            have := HL.out
            unfold Hid
            rw [flat_take _ _ _ hlt, ← HS.out]
            simp only [List.length_append, relB, List.length_cons, be4_len] at *
            omega
          have HFIN : Hid (∀ W v', BK w W w.heap.size (.slice cad o.code.length ccap) (.slice sad o.syms.length scap) (.slice (some ⟨b, f, none⟩) o.rels.length rcap) v' (preR o ++ (o.rels.take k).flatMap relB ++ be4 s.pos ++ [lowB s.size, lowB s.name.length] ++ s.name ++ be4 s.add) → BK w W w.heap.size (.slice cad o.code.length ccap) (.slice sad o.syms.length scap) (.slice (some ⟨b, f, none⟩) o.rels.length rcap) v' (preR o ++ (o.rels.take (k + 1)).flatMap relB)) := fun W v' h => by
            rw [flat_take _ _ _ hlt, ← HS.out]
            simpa [relB] using h
          generalize preR o ++ (o.rels.take k).flatMap relB = l0 at *
          have hL := HL.out
          have HLEAF : Hid (∀ W v', RK w W w.heap.size (.slice cad o.code.length ccap) (.slice sad o.syms.length scap) (.slice (some ⟨b, f, none⟩) o.rels.length rcap) v' (l0 ++ be4 s.pos ++ [lowB s.size, lowB s.name.length] ++ s.name) wr.heap.size #[.int .i64 s.pos, .int .i64 s.size, .string ⟨s.name.toArray⟩, .int .i64 s.add] 41 →
              ∃ v8 w8, (∀ ty, (Builtin.append_ #[22, 22] ty #[v', .slice (some ⟨W.heap.size, 0, none⟩) 4 4]).run Try.prog (W.alloc (.cells (bcells (be4 s.add)).toArray 5)) = .ok v8 w8) ∧ BK w w8 w.heap.size (.slice cad o.code.length ccap) (.slice sad o.syms.length scap) (.slice (some ⟨b, f, none⟩) o.rels.length rcap) v8 (preR o ++ (o.rels.take (k + 1)).flatMap relB)) := fun W v' h => by
            obtain ⟨v8, w8, h1, h2, _⟩ := (h.grow (oalloc W (.cells (bcells (be4 s.add)).toArray 5))).app 4 4 rfl (pend_alloc h (c := (bcells (be4 s.add)).toArray) (news := be4 s.add) rfl) (by simp only [List.length_append, be4_len, List.length_cons, List.length_nil]; omega)
            exact ⟨v8, w8, h1, HFIN.out _ _ h2.bk⟩
          have HRa : Hid (RK w (wr.alloc (.cells #[.int .i64 s.pos, .int .i64 s.size, .string ⟨s.name.toArray⟩, .int .i64 s.add] 41)).drew w.heap.size (.slice cad o.code.length ccap) (.slice sad o.syms.length scap) (.slice (some ⟨b, f, none⟩) o.rels.length rcap) u6 l0 wr.heap.size #[.int .i64 s.pos, .int .i64 s.size, .string ⟨s.name.toArray⟩, .int .i64 s.add] 41) :=
            RK.grow ⟨HBK.out.alloc (.cells #[.int .i64 s.pos, .int .i64 s.size, .string ⟨s.name.toArray⟩, .int .i64 s.add] 41), heap_alloc_new wr _, by decide⟩ (Below.refl _ _).drew
          have hbx : (wr.alloc (.cells #[.int .i64 s.pos, .int .i64 s.size, .string ⟨s.name.toArray⟩, .int .i64 s.add] 41)).drew.heap[wr.heap.size]? = some (.cells #[.int .i64 s.pos, .int .i64 s.size, .string ⟨s.name.toArray⟩, .int .i64 s.add] 41 (0, 0)) := HRa.out.bx
          have HBX := Lib.hid hbx
          clear HBK HL hbx HFIN
          have hcs := fun (W : World) => Lib.run_convert_string_bytes (P := Try.prog) W 9 22 5 ⟨s.name.toArray⟩ Try.underlying9 Try.underlying22 Try.underlying5
          have hsz : (⟨s.name.toArray⟩ : ByteArray).size = s.name.length := by simp [ByteArray.size]
          rw [hsz] at hcs
          go_wp2_with fail
          clear c0 c1 c2 c3
          refine wp_region_noPanic ?_
          refine wp_region_held_drew (S := fun W => W.heap[wr.heap.size]? = some (.cells #[.int .i64 s.pos, .int .i64 s.size, .string ⟨s.name.toArray⟩, .int .i64 s.add] 41 (0, 0))) (by kernel_rfl) HBX.out (fun hHeld => ?_)
          obtain ⟨W0, hW0⟩ : ∃ X, X = (wr.alloc (.cells #[.int .i64 s.pos, .int .i64 s.size, .string ⟨s.name.toArray⟩, .int .i64 s.add] 41)).drew := ⟨_, rfl⟩
          rw [← hW0] at HRa hHeld ⊢
          clear hW0 HBX
          refine take_at 0 72 (v := ?_) rfl rfl (by kernel_rfl) (by kernel_rfl) (by kernel_rfl) (fun _ _ _ h => h) rfl ?_ hHeld ?_
          rotate_left
          · intro w hSw
            go_simp
            try with_reducible rfl
          simp only [List.setIfInBounds_toArray, List.set_cons_zero, List.set_cons_succ]
          refine take_at 1 73 (v := ?_) rfl rfl (by kernel_rfl) (by kernel_rfl) (by kernel_rfl) (fun _ _ _ h => h) rfl ?_ hHeld ?_
          rotate_left
          · intro w hSw
            go_simp
            try with_reducible rfl
          simp only [List.setIfInBounds_toArray, List.set_cons_zero, List.set_cons_succ]
          refine take_at 2 74 (v := ?_) rfl rfl (by kernel_rfl) (by kernel_rfl) (by kernel_rfl) (fun _ _ _ h => h) rfl ?_ hHeld ?_
          rotate_left
          · intro w hSw
            go_simp
            try with_reducible rfl
          simp only [List.setIfInBounds_toArray, List.set_cons_zero, List.set_cons_succ]
          refine take_at 3 75 (v := ?_) rfl rfl (by kernel_rfl) (by kernel_rfl) (by kernel_rfl) (fun _ _ _ h => h) rfl ?_ hHeld ?_
          rotate_left
          · intro w hSw
            have x0 := cell_of_block (i := 0) hSw rfl
            go_simp
            try with_reducible rfl
          simp only [List.setIfInBounds_toArray, List.set_cons_zero, List.set_cons_succ]
          refine take_at 6 78 (v := ?_) rfl rfl (by kernel_rfl) (by kernel_rfl) (by kernel_rfl) (fun _ _ _ h => h) rfl ?_ hHeld ?_
          rotate_left
          · intro w hSw
            go_simp
            try with_reducible rfl
          simp only [List.setIfInBounds_toArray, List.set_cons_zero, List.set_cons_succ]
          refine take_at 7 79 (v := ?_) rfl rfl (by kernel_rfl) (by kernel_rfl) (by kernel_rfl) (fun _ _ _ h => h) rfl ?_ hHeld ?_
          rotate_left
          · intro w hSw
            have x0 := cell_of_block (i := 1) hSw rfl
            go_simp
            try with_reducible rfl
          simp only [List.setIfInBounds_toArray, List.set_cons_zero, List.set_cons_succ]
          refine take_at 8 80 (v := ?_) rfl rfl (by kernel_rfl) (by kernel_rfl) (by kernel_rfl) (fun _ _ _ h => h) rfl ?_ hHeld ?_
          rotate_left
          · intro w hSw
            go_simp
            try with_reducible rfl
          simp only [List.setIfInBounds_toArray, List.set_cons_zero, List.set_cons_succ]
          refine take_at 9 81 (v := ?_) rfl rfl (by kernel_rfl) (by kernel_rfl) (by kernel_rfl) (fun _ _ _ h => h) rfl ?_ hHeld ?_
          rotate_left
          · intro w hSw
            go_simp
            try with_reducible rfl
          simp only [List.setIfInBounds_toArray, List.set_cons_zero, List.set_cons_succ]
          refine take_at 10 82 (v := ?_) rfl rfl (by kernel_rfl) (by kernel_rfl) (by kernel_rfl) (fun _ _ _ h => h) rfl ?_ hHeld ?_
          rotate_left
          · intro w hSw
            have x0 := cell_of_block (i := 2) hSw rfl
            go_simp
            try with_reducible rfl
          simp only [List.setIfInBounds_toArray, List.set_cons_zero, List.set_cons_succ]
          refine take_at 11 83 (v := ?_) rfl rfl (by kernel_rfl) (by kernel_rfl) (by kernel_rfl) (fun _ _ _ h => h) rfl ?_ hHeld ?_
          rotate_left
          · intro w hSw
            go_simp
            try with_reducible rfl
          simp only [List.setIfInBounds_toArray, List.set_cons_zero, List.set_cons_succ]
          refine take_at 12 84 (v := ?_) rfl rfl (by kernel_rfl) (by kernel_rfl) (by kernel_rfl) (fun _ _ _ h => h) rfl ?_ hHeld ?_
          rotate_left
          · intro w hSw
            go_simp
            try with_reducible rfl
          simp only [List.setIfInBounds_toArray, List.set_cons_zero, List.set_cons_succ]
          refine take_at 15 87 (v := ?_) rfl rfl (by kernel_rfl) (by kernel_rfl) (by kernel_rfl) (fun _ _ _ h => h) rfl ?_ hHeld ?_
          rotate_left
          · intro w hSw
            go_simp
            try with_reducible rfl
          simp only [List.setIfInBounds_toArray, List.set_cons_zero, List.set_cons_succ]
          refine take_at 16 88 (v := ?_) rfl rfl (by kernel_rfl) (by kernel_rfl) (by kernel_rfl) (fun _ _ _ h => h) rfl ?_ hHeld ?_
          rotate_left
          · intro w hSw
            have x0 := cell_of_block (i := 2) hSw rfl
            go_simp
            try with_reducible rfl
          simp only [List.setIfInBounds_toArray, List.set_cons_zero, List.set_cons_succ]
          refine wpAnyH_ready (rs := [4, 13, 17]) (by kernel_rfl) (by simp) ?_
          refine AllReadyH.cons rfl (fun K hK => ?_) (AllReadyH.cons rfl (fun K hK => ?_) (AllReadyH.cons rfl (fun K hK => ?_) AllReadyH.nil))
          · go_simp
            refine (rn_any _ _ (by omega)).mono ?_
            rintro e W21 ⟨rfl, hWq⟩
            have hWn := hWq.symm
            clear hWq
            have HR21 := Lib.hid (HRa.out.grow (W' := W21) (by rw [← hWn]; exact oalloc _ _))
            have P4_21 : Hid (Pend W21 u6 W0.heap.size (be4 s.pos)) := by unfold Hid; rw [← hWn]; exact pend_alloc HRa.out rfl
            refine hK.out _ _ HR21.out.bx (fun hHeld => ?_)
            clear hK K hWn HRa 
            refine wpAnyH_ready (rs := [5, 13, 17]) (by kernel_rfl) (by simp) ?_
            refine AllReadyH.cons rfl (fun K hK => ?_) (AllReadyH.cons rfl (fun K hK => ?_) (AllReadyH.cons rfl (fun K hK => ?_) AllReadyH.nil))
            · obtain ⟨v22, W22, happ, hrn, hpn⟩ := HR21.out.app (4) (4) (rfl) P4_21.out (by omega)
              have HA := Lib.hid happ
              have HR22 := Lib.hid hrn
              clear happ hrn hpn P4_21
              refine step_app_eq (by rfl) 77 (by rfl) _ _ _ _ (by rfl) _ _ (by rfl) (by rfl) HA.out ?_
              simp only [List.setIfInBounds_toArray, List.set_cons_zero, List.set_cons_succ]
              refine hK.out _ _ HR22.out.bx (fun hHeld => ?_)
              clear hK K HA HR21
              refine wpAnyH_ready (rs := [13, 17]) (by kernel_rfl) (by simp) ?_
              refine AllReadyH.cons rfl (fun K hK => ?_) (AllReadyH.cons rfl (fun K hK => ?_) AllReadyH.nil)
              · go_simp
                generalize hWn : World.alloc W22 _ = W23
                have HR23 := Lib.hid (HR22.out.grow (W' := W23) (by rw [← hWn]; exact oalloc _ _))
                have P13_23 : Hid (Pend W23 v22 W22.heap.size [lowB s.size, lowB s.name.length]) := by unfold Hid; rw [← hWn]; exact pend_alloc HR22.out (by simp [bcells, lowB_nat, IntKind.wrap_u8])
                refine hK.out _ _ HR23.out.bx (fun hHeld => ?_)
                clear hK K hWn HR22 
                refine wpAnyH_ready (rs := [14, 17]) (by kernel_rfl) (by simp) ?_
                refine AllReadyH.cons rfl (fun K hK => ?_) (AllReadyH.cons rfl (fun K hK => ?_) AllReadyH.nil)
                · obtain ⟨v24, W24, happ, hrn, hpn⟩ := HR23.out.app (2) (2) (rfl) P13_23.out (by simp only [List.length_append, be4_len]; omega)
                  have HA := Lib.hid happ
                  have HR24 := Lib.hid hrn
                  clear happ hrn hpn P13_23
                  refine step_app_eq (by rfl) 86 (by rfl) _ _ _ _ (by rfl) _ _ (by rfl) (by rfl) HA.out ?_
                  simp only [List.setIfInBounds_toArray, List.set_cons_zero, List.set_cons_succ]
                  refine hK.out _ _ HR24.out.bx (fun hHeld => ?_)
                  clear hK K HA HR23
                  refine wpAnyH_ready (rs := [17]) (by kernel_rfl) (by simp) ?_
                  refine AllReadyH.cons rfl (fun K hK => ?_) AllReadyH.nil
                  go_simp
                  generalize hWn : Lib.bytesWorld W24 _ _ = W25
                  have HR25 := Lib.hid (HR24.out.grow (W' := W25) (by rw [← hWn]; exact below_bytes _ _))
                  have P17_25 : Hid (Pend W25 v24 W24.heap.size s.name) := by unfold Hid; rw [← hWn]; exact pend_bytes HR24.out _
                  refine hK.out _ _ HR25.out.bx (fun hHeld => ?_)
                  clear hK K hWn HR24 
                  refine wpAnyH_ready (rs := [18]) (by kernel_rfl) (by simp) ?_
                  refine AllReadyH.cons rfl (fun K hK => ?_) AllReadyH.nil
                  obtain ⟨v26, W26, happ, hrn, hpn⟩ := HR25.out.app (s.name.length) (grownCap W24 s.name.length 0 5) (rfl) P17_25.out (by simp only [List.length_append, be4_len, List.length_cons, List.length_nil]; omega)
                  have HA := Lib.hid happ
                  have HR26 := Lib.hid hrn
                  clear happ hrn hpn P17_25
                  refine step_app_eq (by rfl) 90 (by rfl) _ _ _ _ (by rfl) _ _ (by rfl) (by rfl) HA.out ?_
                  simp only [List.setIfInBounds_toArray, List.set_cons_zero, List.set_cons_succ]
                  refine hK.out _ _ HR26.out.bx (fun hHeld => ?_)
                  clear hK K HA HR25
                  refine wpAnyH_ready (rs := [19]) (by kernel_rfl) (by simp) ?_
                  refine AllReadyH.cons rfl (fun K hK => ?_) AllReadyH.nil
                  go_simp
                  refine hK.out _ _ HR26.out.bx (fun hHeld => ?_)
                  clear hK K
                  refine wpAnyH_done (by kernel_rfl) ?_ _
                  refine NoPanic.normal ?_
                  obtain ⟨v8, w8, happ, hbk⟩ := HLEAF.out W26 v26 HR26.out
                  have HA := Lib.hid happ
                  have HBK8 := Lib.hid hbk
                  have d3 : W26.cell? ⟨wr.heap.size, 3, none⟩ = some (.int .i64 s.add) := cell_of_block HR26.out.bx rfl
                  clear happ hbk HR26 HLEAF hHeld hcs
                  go_wp2_with fail
                  refine (rn_any _ _ HADD.out).mono ?_
                  rintro e wq ⟨rfl, rfl⟩
                  go_wp2_with (at_builtin; refine wpList_app_eq rfl _ _ _ _ rfl _ _ rfl rfl HA.out ?_)
                  exact ⟨⟨k + 1, by omega, by go_num, HBK8, HL8⟩, by simp [intOf]; omega⟩
                · go_simp
                  generalize hWn : Lib.bytesWorld W23 _ _ = W28
                  have HR28 := Lib.hid (HR23.out.grow (W' := W28) (by rw [← hWn]; exact below_bytes _ _))
                  have P13_28 := Lib.hid (P13_23.out.grow (W' := W28) (by rw [← hWn]; exact below_bytes _ _))
                  have P17_28 : Hid (Pend W28 v22 W23.heap.size s.name) := by unfold Hid; rw [← hWn]; exact pend_bytes HR23.out _
                  refine hK.out _ _ HR28.out.bx (fun hHeld => ?_)
                  clear hK K hWn HR23 P13_23
                  refine wpAnyH_ready (rs := [14]) (by kernel_rfl) (by simp) ?_
                  refine AllReadyH.cons rfl (fun K hK => ?_) AllReadyH.nil
                  obtain ⟨v29, W29, happ, hrn, hpn⟩ := HR28.out.app (2) (2) (rfl) P13_28.out (by simp only [List.length_append, be4_len]; omega)
                  have HA := Lib.hid happ
                  have HR29 := Lib.hid hrn
                  have P17_29 := Lib.hid (hpn _ _ P17_28.out)
                  clear happ hrn hpn P13_28 P17_28
                  refine step_app_eq (by rfl) 86 (by rfl) _ _ _ _ (by rfl) _ _ (by rfl) (by rfl) HA.out ?_
                  simp only [List.setIfInBounds_toArray, List.set_cons_zero, List.set_cons_succ]
                  refine hK.out _ _ HR29.out.bx (fun hHeld => ?_)
                  clear hK K HA HR28
                  refine wpAnyH_ready (rs := [18]) (by kernel_rfl) (by simp) ?_
                  refine AllReadyH.cons rfl (fun K hK => ?_) AllReadyH.nil
                  obtain ⟨v30, W30, happ, hrn, hpn⟩ := HR29.out.app (s.name.length) (grownCap W23 s.name.length 0 5) (rfl) P17_29.out (by simp only [List.length_append, be4_len, List.length_cons, List.length_nil]; omega)
                  have HA := Lib.hid happ
                  have HR30 := Lib.hid hrn
                  clear happ hrn hpn P17_29
                  refine step_app_eq (by rfl) 90 (by rfl) _ _ _ _ (by rfl) _ _ (by rfl) (by rfl) HA.out ?_
                  simp only [List.setIfInBounds_toArray, List.set_cons_zero, List.set_cons_succ]
                  refine hK.out _ _ HR30.out.bx (fun hHeld => ?_)
                  clear hK K HA HR29
                  refine wpAnyH_ready (rs := [19]) (by kernel_rfl) (by simp) ?_
                  refine AllReadyH.cons rfl (fun K hK => ?_) AllReadyH.nil
                  go_simp
                  refine hK.out _ _ HR30.out.bx (fun hHeld => ?_)
                  clear hK K
                  refine wpAnyH_done (by kernel_rfl) ?_ _
                  refine NoPanic.normal ?_
                  obtain ⟨v8, w8, happ, hbk⟩ := HLEAF.out W30 v30 HR30.out
                  have HA := Lib.hid happ
                  have HBK8 := Lib.hid hbk
                  have d3 : W30.cell? ⟨wr.heap.size, 3, none⟩ = some (.int .i64 s.add) := cell_of_block HR30.out.bx rfl
                  clear happ hbk HR30 HLEAF hHeld hcs
                  go_wp2_with fail
                  refine (rn_any _ _ HADD.out).mono ?_
                  rintro e wq ⟨rfl, rfl⟩
                  go_wp2_with (at_builtin; refine wpList_app_eq rfl _ _ _ _ rfl _ _ rfl rfl HA.out ?_)
                  exact ⟨⟨k + 1, by omega, by go_num, HBK8, HL8⟩, by simp [intOf]; omega⟩
              · go_simp
                generalize hWn : Lib.bytesWorld W22 _ _ = W32
                have HR32 := Lib.hid (HR22.out.grow (W' := W32) (by rw [← hWn]; exact below_bytes _ _))
                have P17_32 : Hid (Pend W32 v22 W22.heap.size s.name) := by unfold Hid; rw [← hWn]; exact pend_bytes HR22.out _
                refine hK.out _ _ HR32.out.bx (fun hHeld => ?_)
                clear hK K hWn HR22 
                refine wpAnyH_ready (rs := [13]) (by kernel_rfl) (by simp) ?_
                refine AllReadyH.cons rfl (fun K hK => ?_) AllReadyH.nil
                go_simp
                generalize hWn : World.alloc W32 _ = W33
                have HR33 := Lib.hid (HR32.out.grow (W' := W33) (by rw [← hWn]; exact oalloc _ _))
                have P17_33 := Lib.hid (P17_32.out.grow (W' := W33) (by rw [← hWn]; exact oalloc _ _))
                have P13_33 : Hid (Pend W33 v22 W32.heap.size [lowB s.size, lowB s.name.length]) := by unfold Hid; rw [← hWn]; exact pend_alloc HR32.out (by simp [bcells, lowB_nat, IntKind.wrap_u8])
                refine hK.out _ _ HR33.out.bx (fun hHeld => ?_)
                clear hK K hWn HR32 P17_32
                refine wpAnyH_ready (rs := [14]) (by kernel_rfl) (by simp) ?_
                refine AllReadyH.cons rfl (fun K hK => ?_) AllReadyH.nil
                obtain ⟨v34, W34, happ, hrn, hpn⟩ := HR33.out.app (2) (2) (rfl) P13_33.out (by simp only [List.length_append, be4_len]; omega)
                have HA := Lib.hid happ
                have HR34 := Lib.hid hrn
                have P17_34 := Lib.hid (hpn _ _ P17_33.out)
                clear happ hrn hpn P17_33 P13_33
                refine step_app_eq (by rfl) 86 (by rfl) _ _ _ _ (by rfl) _ _ (by rfl) (by rfl) HA.out ?_
                simp only [List.setIfInBounds_toArray, List.set_cons_zero, List.set_cons_succ]
                refine hK.out _ _ HR34.out.bx (fun hHeld => ?_)
                clear hK K HA HR33
                refine wpAnyH_ready (rs := [18]) (by kernel_rfl) (by simp) ?_
                refine AllReadyH.cons rfl (fun K hK => ?_) AllReadyH.nil
                obtain ⟨v35, W35, happ, hrn, hpn⟩ := HR34.out.app (s.name.length) (grownCap W22 s.name.length 0 5) (rfl) P17_34.out (by simp only [List.length_append, be4_len, List.length_cons, List.length_nil]; omega)
                have HA := Lib.hid happ
                have HR35 := Lib.hid hrn
                clear happ hrn hpn P17_34
                refine step_app_eq (by rfl) 90 (by rfl) _ _ _ _ (by rfl) _ _ (by rfl) (by rfl) HA.out ?_
                simp only [List.setIfInBounds_toArray, List.set_cons_zero, List.set_cons_succ]
                refine hK.out _ _ HR35.out.bx (fun hHeld => ?_)
                clear hK K HA HR34
                refine wpAnyH_ready (rs := [19]) (by kernel_rfl) (by simp) ?_
                refine AllReadyH.cons rfl (fun K hK => ?_) AllReadyH.nil
                go_simp
                refine hK.out _ _ HR35.out.bx (fun hHeld => ?_)
                clear hK K
                refine wpAnyH_done (by kernel_rfl) ?_ _
                refine NoPanic.normal ?_
                obtain ⟨v8, w8, happ, hbk⟩ := HLEAF.out W35 v35 HR35.out
                have HA := Lib.hid happ
                have HBK8 := Lib.hid hbk
                have d3 : W35.cell? ⟨wr.heap.size, 3, none⟩ = some (.int .i64 s.add) := cell_of_block HR35.out.bx rfl
                clear happ hbk HR35 HLEAF hHeld hcs
                go_wp2_with fail
                refine (rn_any _ _ HADD.out).mono ?_
                rintro e wq ⟨rfl, rfl⟩
                go_wp2_with (at_builtin; refine wpList_app_eq rfl _ _ _ _ rfl _ _ rfl rfl HA.out ?_)
                exact ⟨⟨k + 1, by omega, by go_num, HBK8, HL8⟩, by simp [intOf]; omega⟩
            · go_simp
              generalize hWn : World.alloc W21 _ = W37
              have HR37 := Lib.hid (HR21.out.grow (W' := W37) (by rw [← hWn]; exact oalloc _ _))
              have P4_37 := Lib.hid (P4_21.out.grow (W' := W37) (by rw [← hWn]; exact oalloc _ _))
              have P13_37 : Hid (Pend W37 u6 W21.heap.size [lowB s.size, lowB s.name.length]) := by unfold Hid; rw [← hWn]; exact pend_alloc HR21.out (by simp [bcells, lowB_nat, IntKind.wrap_u8])
              refine hK.out _ _ HR37.out.bx (fun hHeld => ?_)
              clear hK K hWn HR21 P4_21
              refine wpAnyH_ready (rs := [5, 17]) (by kernel_rfl) (by simp) ?_
              refine AllReadyH.cons rfl (fun K hK => ?_) (AllReadyH.cons rfl (fun K hK => ?_) AllReadyH.nil)
              · obtain ⟨v38, W38, happ, hrn, hpn⟩ := HR37.out.app (4) (4) (rfl) P4_37.out (by omega)
                have HA := Lib.hid happ
                have HR38 := Lib.hid hrn
                have P13_38 := Lib.hid (hpn _ _ P13_37.out)
                clear happ hrn hpn P4_37 P13_37
                refine step_app_eq (by rfl) 77 (by rfl) _ _ _ _ (by rfl) _ _ (by rfl) (by rfl) HA.out ?_
                simp only [List.setIfInBounds_toArray, List.set_cons_zero, List.set_cons_succ]
                refine hK.out _ _ HR38.out.bx (fun hHeld => ?_)
                clear hK K HA HR37
                refine wpAnyH_ready (rs := [14, 17]) (by kernel_rfl) (by simp) ?_
                refine AllReadyH.cons rfl (fun K hK => ?_) (AllReadyH.cons rfl (fun K hK => ?_) AllReadyH.nil)
                · obtain ⟨v39, W39, happ, hrn, hpn⟩ := HR38.out.app (2) (2) (rfl) P13_38.out (by simp only [List.length_append, be4_len]; omega)
                  have HA := Lib.hid happ
                  have HR39 := Lib.hid hrn
                  clear happ hrn hpn P13_38
                  refine step_app_eq (by rfl) 86 (by rfl) _ _ _ _ (by rfl) _ _ (by rfl) (by rfl) HA.out ?_
                  simp only [List.setIfInBounds_toArray, List.set_cons_zero, List.set_cons_succ]
                  refine hK.out _ _ HR39.out.bx (fun hHeld => ?_)
                  clear hK K HA HR38
                  refine wpAnyH_ready (rs := [17]) (by kernel_rfl) (by simp) ?_
                  refine AllReadyH.cons rfl (fun K hK => ?_) AllReadyH.nil
                  go_simp
                  generalize hWn : Lib.bytesWorld W39 _ _ = W40
                  have HR40 := Lib.hid (HR39.out.grow (W' := W40) (by rw [← hWn]; exact below_bytes _ _))
                  have P17_40 : Hid (Pend W40 v39 W39.heap.size s.name) := by unfold Hid; rw [← hWn]; exact pend_bytes HR39.out _
                  refine hK.out _ _ HR40.out.bx (fun hHeld => ?_)
                  clear hK K hWn HR39 
                  refine wpAnyH_ready (rs := [18]) (by kernel_rfl) (by simp) ?_
                  refine AllReadyH.cons rfl (fun K hK => ?_) AllReadyH.nil
                  obtain ⟨v41, W41, happ, hrn, hpn⟩ := HR40.out.app (s.name.length) (grownCap W39 s.name.length 0 5) (rfl) P17_40.out (by simp only [List.length_append, be4_len, List.length_cons, List.length_nil]; omega)
                  have HA := Lib.hid happ
                  have HR41 := Lib.hid hrn
                  clear happ hrn hpn P17_40
                  refine step_app_eq (by rfl) 90 (by rfl) _ _ _ _ (by rfl) _ _ (by rfl) (by rfl) HA.out ?_
                  simp only [List.setIfInBounds_toArray, List.set_cons_zero, List.set_cons_succ]
                  refine hK.out _ _ HR41.out.bx (fun hHeld => ?_)
                  clear hK K HA HR40
                  refine wpAnyH_ready (rs := [19]) (by kernel_rfl) (by simp) ?_
                  refine AllReadyH.cons rfl (fun K hK => ?_) AllReadyH.nil
                  go_simp
                  refine hK.out _ _ HR41.out.bx (fun hHeld => ?_)
                  clear hK K
                  refine wpAnyH_done (by kernel_rfl) ?_ _
                  refine NoPanic.normal ?_
                  obtain ⟨v8, w8, happ, hbk⟩ := HLEAF.out W41 v41 HR41.out
                  have HA := Lib.hid happ
                  have HBK8 := Lib.hid hbk
                  have d3 : W41.cell? ⟨wr.heap.size, 3, none⟩ = some (.int .i64 s.add) := cell_of_block HR41.out.bx rfl
                  clear happ hbk HR41 HLEAF hHeld hcs
                  go_wp2_with fail
                  refine (rn_any _ _ HADD.out).mono ?_
                  rintro e wq ⟨rfl, rfl⟩
                  go_wp2_with (at_builtin; refine wpList_app_eq rfl _ _ _ _ rfl _ _ rfl rfl HA.out ?_)
                  exact ⟨⟨k + 1, by omega, by go_num, HBK8, HL8⟩, by simp [intOf]; omega⟩
                · go_simp
                  generalize hWn : Lib.bytesWorld W38 _ _ = W43
                  have HR43 := Lib.hid (HR38.out.grow (W' := W43) (by rw [← hWn]; exact below_bytes _ _))
                  have P13_43 := Lib.hid (P13_38.out.grow (W' := W43) (by rw [← hWn]; exact below_bytes _ _))
                  have P17_43 : Hid (Pend W43 v38 W38.heap.size s.name) := by unfold Hid; rw [← hWn]; exact pend_bytes HR38.out _
                  refine hK.out _ _ HR43.out.bx (fun hHeld => ?_)
                  clear hK K hWn HR38 P13_38
                  refine wpAnyH_ready (rs := [14]) (by kernel_rfl) (by simp) ?_
                  refine AllReadyH.cons rfl (fun K hK => ?_) AllReadyH.nil
                  obtain ⟨v44, W44, happ, hrn, hpn⟩ := HR43.out.app (2) (2) (rfl) P13_43.out (by simp only [List.length_append, be4_len]; omega)
                  have HA := Lib.hid happ
                  have HR44 := Lib.hid hrn
                  have P17_44 := Lib.hid (hpn _ _ P17_43.out)
                  clear happ hrn hpn P13_43 P17_43
                  refine step_app_eq (by rfl) 86 (by rfl) _ _ _ _ (by rfl) _ _ (by rfl) (by rfl) HA.out ?_
                  simp only [List.setIfInBounds_toArray, List.set_cons_zero, List.set_cons_succ]
                  refine hK.out _ _ HR44.out.bx (fun hHeld => ?_)
                  clear hK K HA HR43
                  refine wpAnyH_ready (rs := [18]) (by kernel_rfl) (by simp) ?_
                  refine AllReadyH.cons rfl (fun K hK => ?_) AllReadyH.nil
                  obtain ⟨v45, W45, happ, hrn, hpn⟩ := HR44.out.app (s.name.length) (grownCap W38 s.name.length 0 5) (rfl) P17_44.out (by simp only [List.length_append, be4_len, List.length_cons, List.length_nil]; omega)
                  have HA := Lib.hid happ
                  have HR45 := Lib.hid hrn
                  clear happ hrn hpn P17_44
                  refine step_app_eq (by rfl) 90 (by rfl) _ _ _ _ (by rfl) _ _ (by rfl) (by rfl) HA.out ?_
                  simp only [List.setIfInBounds_toArray, List.set_cons_zero, List.set_cons_succ]
                  refine hK.out _ _ HR45.out.bx (fun hHeld => ?_)
                  clear hK K HA HR44
                  refine wpAnyH_ready (rs := [19]) (by kernel_rfl) (by simp) ?_
                  refine AllReadyH.cons rfl (fun K hK => ?_) AllReadyH.nil
                  go_simp
                  refine hK.out _ _ HR45.out.bx (fun hHeld => ?_)
                  clear hK K
                  refine wpAnyH_done (by kernel_rfl) ?_ _
                  refine NoPanic.normal ?_
                  obtain ⟨v8, w8, happ, hbk⟩ := HLEAF.out W45 v45 HR45.out
                  have HA := Lib.hid happ
                  have HBK8 := Lib.hid hbk
                  have d3 : W45.cell? ⟨wr.heap.size, 3, none⟩ = some (.int .i64 s.add) := cell_of_block HR45.out.bx rfl
                  clear happ hbk HR45 HLEAF hHeld hcs
                  go_wp2_with fail
                  refine (rn_any _ _ HADD.out).mono ?_
                  rintro e wq ⟨rfl, rfl⟩
                  go_wp2_with (at_builtin; refine wpList_app_eq rfl _ _ _ _ rfl _ _ rfl rfl HA.out ?_)
                  exact ⟨⟨k + 1, by omega, by go_num, HBK8, HL8⟩, by simp [intOf]; omega⟩
              · go_simp
                generalize hWn : Lib.bytesWorld W37 _ _ = W47
                have HR47 := Lib.hid (HR37.out.grow (W' := W47) (by rw [← hWn]; exact below_bytes _ _))
                have P4_47 := Lib.hid (P4_37.out.grow (W' := W47) (by rw [← hWn]; exact below_bytes _ _))
                have P13_47 := Lib.hid (P13_37.out.grow (W' := W47) (by rw [← hWn]; exact below_bytes _ _))
                have P17_47 : Hid (Pend W47 u6 W37.heap.size s.name) := by unfold Hid; rw [← hWn]; exact pend_bytes HR37.out _
                refine hK.out _ _ HR47.out.bx (fun hHeld => ?_)
                clear hK K hWn HR37 P4_37 P13_37
                refine wpAnyH_ready (rs := [5]) (by kernel_rfl) (by simp) ?_
                refine AllReadyH.cons rfl (fun K hK => ?_) AllReadyH.nil
                obtain ⟨v48, W48, happ, hrn, hpn⟩ := HR47.out.app (4) (4) (rfl) P4_47.out (by omega)
                have HA := Lib.hid happ
                have HR48 := Lib.hid hrn
                have P13_48 := Lib.hid (hpn _ _ P13_47.out)
                have P17_48 := Lib.hid (hpn _ _ P17_47.out)
                clear happ hrn hpn P4_47 P13_47 P17_47
                refine step_app_eq (by rfl) 77 (by rfl) _ _ _ _ (by rfl) _ _ (by rfl) (by rfl) HA.out ?_
                simp only [List.setIfInBounds_toArray, List.set_cons_zero, List.set_cons_succ]
                refine hK.out _ _ HR48.out.bx (fun hHeld => ?_)
                clear hK K HA HR47
                refine wpAnyH_ready (rs := [14]) (by kernel_rfl) (by simp) ?_
                refine AllReadyH.cons rfl (fun K hK => ?_) AllReadyH.nil
                obtain ⟨v49, W49, happ, hrn, hpn⟩ := HR48.out.app (2) (2) (rfl) P13_48.out (by simp only [List.length_append, be4_len]; omega)
                have HA := Lib.hid happ
                have HR49 := Lib.hid hrn
                have P17_49 := Lib.hid (hpn _ _ P17_48.out)
                clear happ hrn hpn P13_48 P17_48
                refine step_app_eq (by rfl) 86 (by rfl) _ _ _ _ (by rfl) _ _ (by rfl) (by rfl) HA.out ?_
                simp only [List.setIfInBounds_toArray, List.set_cons_zero, List.set_cons_succ]
                refine hK.out _ _ HR49.out.bx (fun hHeld => ?_)
                clear hK K HA HR48
                refine wpAnyH_ready (rs := [18]) (by kernel_rfl) (by simp) ?_
                refine AllReadyH.cons rfl (fun K hK => ?_) AllReadyH.nil
                obtain ⟨v50, W50, happ, hrn, hpn⟩ := HR49.out.app (s.name.length) (grownCap W37 s.name.length 0 5) (rfl) P17_49.out (by simp only [List.length_append, be4_len, List.length_cons, List.length_nil]; omega)
                have HA := Lib.hid happ
                have HR50 := Lib.hid hrn
                clear happ hrn hpn P17_49
                refine step_app_eq (by rfl) 90 (by rfl) _ _ _ _ (by rfl) _ _ (by rfl) (by rfl) HA.out ?_
                simp only [List.setIfInBounds_toArray, List.set_cons_zero, List.set_cons_succ]
                refine hK.out _ _ HR50.out.bx (fun hHeld => ?_)
                clear hK K HA HR49
                refine wpAnyH_ready (rs := [19]) (by kernel_rfl) (by simp) ?_
                refine AllReadyH.cons rfl (fun K hK => ?_) AllReadyH.nil
                go_simp
                refine hK.out _ _ HR50.out.bx (fun hHeld => ?_)
                clear hK K
                refine wpAnyH_done (by kernel_rfl) ?_ _
                refine NoPanic.normal ?_
                obtain ⟨v8, w8, happ, hbk⟩ := HLEAF.out W50 v50 HR50.out
                have HA := Lib.hid happ
                have HBK8 := Lib.hid hbk
                have d3 : W50.cell? ⟨wr.heap.size, 3, none⟩ = some (.int .i64 s.add) := cell_of_block HR50.out.bx rfl
                clear happ hbk HR50 HLEAF hHeld hcs
                go_wp2_with fail
                refine (rn_any _ _ HADD.out).mono ?_
                rintro e wq ⟨rfl, rfl⟩
                go_wp2_with (at_builtin; refine wpList_app_eq rfl _ _ _ _ rfl _ _ rfl rfl HA.out ?_)
                exact ⟨⟨k + 1, by omega, by go_num, HBK8, HL8⟩, by simp [intOf]; omega⟩
            · go_simp
              generalize hWn : Lib.bytesWorld W21 _ _ = W52
              have HR52 := Lib.hid (HR21.out.grow (W' := W52) (by rw [← hWn]; exact below_bytes _ _))
              have P4_52 := Lib.hid (P4_21.out.grow (W' := W52) (by rw [← hWn]; exact below_bytes _ _))
              have P17_52 : Hid (Pend W52 u6 W21.heap.size s.name) := by unfold Hid; rw [← hWn]; exact pend_bytes HR21.out _
              refine hK.out _ _ HR52.out.bx (fun hHeld => ?_)
              clear hK K hWn HR21 P4_21
              refine wpAnyH_ready (rs := [5, 13]) (by kernel_rfl) (by simp) ?_
              refine AllReadyH.cons rfl (fun K hK => ?_) (AllReadyH.cons rfl (fun K hK => ?_) AllReadyH.nil)
              · obtain ⟨v53, W53, happ, hrn, hpn⟩ := HR52.out.app (4) (4) (rfl) P4_52.out (by omega)
                have HA := Lib.hid happ
                have HR53 := Lib.hid hrn
                have P17_53 := Lib.hid (hpn _ _ P17_52.out)
                clear happ hrn hpn P4_52 P17_52
                refine step_app_eq (by rfl) 77 (by rfl) _ _ _ _ (by rfl) _ _ (by rfl) (by rfl) HA.out ?_
                simp only [List.setIfInBounds_toArray, List.set_cons_zero, List.set_cons_succ]
                refine hK.out _ _ HR53.out.bx (fun hHeld => ?_)
                clear hK K HA HR52
                refine wpAnyH_ready (rs := [13]) (by kernel_rfl) (by simp) ?_
                refine AllReadyH.cons rfl (fun K hK => ?_) AllReadyH.nil
                go_simp
                generalize hWn : World.alloc W53 _ = W54
                have HR54 := Lib.hid (HR53.out.grow (W' := W54) (by rw [← hWn]; exact oalloc _ _))
                have P17_54 := Lib.hid (P17_53.out.grow (W' := W54) (by rw [← hWn]; exact oalloc _ _))
                have P13_54 : Hid (Pend W54 v53 W53.heap.size [lowB s.size, lowB s.name.length]) := by unfold Hid; rw [← hWn]; exact pend_alloc HR53.out (by simp [bcells, lowB_nat, IntKind.wrap_u8])
                refine hK.out _ _ HR54.out.bx (fun hHeld => ?_)
                clear hK K hWn HR53 P17_53
                refine wpAnyH_ready (rs := [14]) (by kernel_rfl) (by simp) ?_
                refine AllReadyH.cons rfl (fun K hK => ?_) AllReadyH.nil
                obtain ⟨v55, W55, happ, hrn, hpn⟩ := HR54.out.app (2) (2) (rfl) P13_54.out (by simp only [List.length_append, be4_len]; omega)
                have HA := Lib.hid happ
                have HR55 := Lib.hid hrn
                have P17_55 := Lib.hid (hpn _ _ P17_54.out)
                clear happ hrn hpn P17_54 P13_54
                refine step_app_eq (by rfl) 86 (by rfl) _ _ _ _ (by rfl) _ _ (by rfl) (by rfl) HA.out ?_
                simp only [List.setIfInBounds_toArray, List.set_cons_zero, List.set_cons_succ]
                refine hK.out _ _ HR55.out.bx (fun hHeld => ?_)
                clear hK K HA HR54
                refine wpAnyH_ready (rs := [18]) (by kernel_rfl) (by simp) ?_
                refine AllReadyH.cons rfl (fun K hK => ?_) AllReadyH.nil
                obtain ⟨v56, W56, happ, hrn, hpn⟩ := HR55.out.app (s.name.length) (grownCap W21 s.name.length 0 5) (rfl) P17_55.out (by simp only [List.length_append, be4_len, List.length_cons, List.length_nil]; omega)
                have HA := Lib.hid happ
                have HR56 := Lib.hid hrn
                clear happ hrn hpn P17_55
                refine step_app_eq (by rfl) 90 (by rfl) _ _ _ _ (by rfl) _ _ (by rfl) (by rfl) HA.out ?_
                simp only [List.setIfInBounds_toArray, List.set_cons_zero, List.set_cons_succ]
                refine hK.out _ _ HR56.out.bx (fun hHeld => ?_)
                clear hK K HA HR55
                refine wpAnyH_ready (rs := [19]) (by kernel_rfl) (by simp) ?_
                refine AllReadyH.cons rfl (fun K hK => ?_) AllReadyH.nil
                go_simp
                refine hK.out _ _ HR56.out.bx (fun hHeld => ?_)
                clear hK K
                refine wpAnyH_done (by kernel_rfl) ?_ _
                refine NoPanic.normal ?_
                obtain ⟨v8, w8, happ, hbk⟩ := HLEAF.out W56 v56 HR56.out
                have HA := Lib.hid happ
                have HBK8 := Lib.hid hbk
                have d3 : W56.cell? ⟨wr.heap.size, 3, none⟩ = some (.int .i64 s.add) := cell_of_block HR56.out.bx rfl
                clear happ hbk HR56 HLEAF hHeld hcs
                go_wp2_with fail
                refine (rn_any _ _ HADD.out).mono ?_
                rintro e wq ⟨rfl, rfl⟩
                go_wp2_with (at_builtin; refine wpList_app_eq rfl _ _ _ _ rfl _ _ rfl rfl HA.out ?_)
                exact ⟨⟨k + 1, by omega, by go_num, HBK8, HL8⟩, by simp [intOf]; omega⟩
              · go_simp
                generalize hWn : World.alloc W52 _ = W58
                have HR58 := Lib.hid (HR52.out.grow (W' := W58) (by rw [← hWn]; exact oalloc _ _))
                have P4_58 := Lib.hid (P4_52.out.grow (W' := W58) (by rw [← hWn]; exact oalloc _ _))
                have P17_58 := Lib.hid (P17_52.out.grow (W' := W58) (by rw [← hWn]; exact oalloc _ _))
                have P13_58 : Hid (Pend W58 u6 W52.heap.size [lowB s.size, lowB s.name.length]) := by unfold Hid; rw [← hWn]; exact pend_alloc HR52.out (by simp [bcells, lowB_nat, IntKind.wrap_u8])
                refine hK.out _ _ HR58.out.bx (fun hHeld => ?_)
                clear hK K hWn HR52 P4_52 P17_52
                refine wpAnyH_ready (rs := [5]) (by kernel_rfl) (by simp) ?_
                refine AllReadyH.cons rfl (fun K hK => ?_) AllReadyH.nil
                obtain ⟨v59, W59, happ, hrn, hpn⟩ := HR58.out.app (4) (4) (rfl) P4_58.out (by omega)
                have HA := Lib.hid happ
                have HR59 := Lib.hid hrn
                have P17_59 := Lib.hid (hpn _ _ P17_58.out)
                have P13_59 := Lib.hid (hpn _ _ P13_58.out)
                clear happ hrn hpn P4_58 P17_58 P13_58
                refine step_app_eq (by rfl) 77 (by rfl) _ _ _ _ (by rfl) _ _ (by rfl) (by rfl) HA.out ?_
                simp only [List.setIfInBounds_toArray, List.set_cons_zero, List.set_cons_succ]
                refine hK.out _ _ HR59.out.bx (fun hHeld => ?_)
                clear hK K HA HR58
                refine wpAnyH_ready (rs := [14]) (by kernel_rfl) (by simp) ?_
                refine AllReadyH.cons rfl (fun K hK => ?_) AllReadyH.nil
                obtain ⟨v60, W60, happ, hrn, hpn⟩ := HR59.out.app (2) (2) (rfl) P13_59.out (by simp only [List.length_append, be4_len]; omega)
                have HA := Lib.hid happ
                have HR60 := Lib.hid hrn
                have P17_60 := Lib.hid (hpn _ _ P17_59.out)
                clear happ hrn hpn P17_59 P13_59
                refine step_app_eq (by rfl) 86 (by rfl) _ _ _ _ (by rfl) _ _ (by rfl) (by rfl) HA.out ?_
                simp only [List.setIfInBounds_toArray, List.set_cons_zero, List.set_cons_succ]
                refine hK.out _ _ HR60.out.bx (fun hHeld => ?_)
                clear hK K HA HR59
                refine wpAnyH_ready (rs := [18]) (by kernel_rfl) (by simp) ?_
                refine AllReadyH.cons rfl (fun K hK => ?_) AllReadyH.nil
                obtain ⟨v61, W61, happ, hrn, hpn⟩ := HR60.out.app (s.name.length) (grownCap W21 s.name.length 0 5) (rfl) P17_60.out (by simp only [List.length_append, be4_len, List.length_cons, List.length_nil]; omega)
                have HA := Lib.hid happ
                have HR61 := Lib.hid hrn
                clear happ hrn hpn P17_60
                refine step_app_eq (by rfl) 90 (by rfl) _ _ _ _ (by rfl) _ _ (by rfl) (by rfl) HA.out ?_
                simp only [List.setIfInBounds_toArray, List.set_cons_zero, List.set_cons_succ]
                refine hK.out _ _ HR61.out.bx (fun hHeld => ?_)
                clear hK K HA HR60
                refine wpAnyH_ready (rs := [19]) (by kernel_rfl) (by simp) ?_
                refine AllReadyH.cons rfl (fun K hK => ?_) AllReadyH.nil
                go_simp
                refine hK.out _ _ HR61.out.bx (fun hHeld => ?_)
                clear hK K
                refine wpAnyH_done (by kernel_rfl) ?_ _
                refine NoPanic.normal ?_
                obtain ⟨v8, w8, happ, hbk⟩ := HLEAF.out W61 v61 HR61.out
                have HA := Lib.hid happ
                have HBK8 := Lib.hid hbk
                have d3 : W61.cell? ⟨wr.heap.size, 3, none⟩ = some (.int .i64 s.add) := cell_of_block HR61.out.bx rfl
                clear happ hbk HR61 HLEAF hHeld hcs
                go_wp2_with fail
                refine (rn_any _ _ HADD.out).mono ?_
                rintro e wq ⟨rfl, rfl⟩
                go_wp2_with (at_builtin; refine wpList_app_eq rfl _ _ _ _ rfl _ _ rfl rfl HA.out ?_)
                exact ⟨⟨k + 1, by omega, by go_num, HBK8, HL8⟩, by simp [intOf]; omega⟩
          · go_simp
            generalize hWn : World.alloc W0 _ = W63
            have HR63 := Lib.hid (HRa.out.grow (W' := W63) (by rw [← hWn]; exact oalloc _ _))
            have P13_63 : Hid (Pend W63 u6 W0.heap.size [lowB s.size, lowB s.name.length]) := by unfold Hid; rw [← hWn]; exact pend_alloc HRa.out (by simp [bcells, lowB_nat, IntKind.wrap_u8])
            refine hK.out _ _ HR63.out.bx (fun hHeld => ?_)
            clear hK K hWn HRa 
            refine wpAnyH_ready (rs := [4, 17]) (by kernel_rfl) (by simp) ?_
            refine AllReadyH.cons rfl (fun K hK => ?_) (AllReadyH.cons rfl (fun K hK => ?_) AllReadyH.nil)
            · go_simp
              refine (rn_any _ _ (by omega)).mono ?_
              rintro e W64 ⟨rfl, hWq⟩
              have hWn := hWq.symm
              clear hWq
              have HR64 := Lib.hid (HR63.out.grow (W' := W64) (by rw [← hWn]; exact oalloc _ _))
              have P13_64 := Lib.hid (P13_63.out.grow (W' := W64) (by rw [← hWn]; exact oalloc _ _))
              have P4_64 : Hid (Pend W64 u6 W63.heap.size (be4 s.pos)) := by unfold Hid; rw [← hWn]; exact pend_alloc HR63.out rfl
              refine hK.out _ _ HR64.out.bx (fun hHeld => ?_)
              clear hK K hWn HR63 P13_63
              refine wpAnyH_ready (rs := [5, 17]) (by kernel_rfl) (by simp) ?_
              refine AllReadyH.cons rfl (fun K hK => ?_) (AllReadyH.cons rfl (fun K hK => ?_) AllReadyH.nil)
              · obtain ⟨v65, W65, happ, hrn, hpn⟩ := HR64.out.app (4) (4) (rfl) P4_64.out (by omega)
                have HA := Lib.hid happ
                have HR65 := Lib.hid hrn
                have P13_65 := Lib.hid (hpn _ _ P13_64.out)
                clear happ hrn hpn P13_64 P4_64
                refine step_app_eq (by rfl) 77 (by rfl) _ _ _ _ (by rfl) _ _ (by rfl) (by rfl) HA.out ?_
                simp only [List.setIfInBounds_toArray, List.set_cons_zero, List.set_cons_succ]
                refine hK.out _ _ HR65.out.bx (fun hHeld => ?_)
                clear hK K HA HR64
                refine wpAnyH_ready (rs := [14, 17]) (by kernel_rfl) (by simp) ?_
                refine AllReadyH.cons rfl (fun K hK => ?_) (AllReadyH.cons rfl (fun K hK => ?_) AllReadyH.nil)
                · obtain ⟨v66, W66, happ, hrn, hpn⟩ := HR65.out.app (2) (2) (rfl) P13_65.out (by simp only [List.length_append, be4_len]; omega)
                  have HA := Lib.hid happ
                  have HR66 := Lib.hid hrn
                  clear happ hrn hpn P13_65
                  refine step_app_eq (by rfl) 86 (by rfl) _ _ _ _ (by rfl) _ _ (by rfl) (by rfl) HA.out ?_
                  simp only [List.setIfInBounds_toArray, List.set_cons_zero, List.set_cons_succ]
                  refine hK.out _ _ HR66.out.bx (fun hHeld => ?_)
                  clear hK K HA HR65
                  refine wpAnyH_ready (rs := [17]) (by kernel_rfl) (by simp) ?_
                  refine AllReadyH.cons rfl (fun K hK => ?_) AllReadyH.nil
                  go_simp
                  generalize hWn : Lib.bytesWorld W66 _ _ = W67
                  have HR67 := Lib.hid (HR66.out.grow (W' := W67) (by rw [← hWn]; exact below_bytes _ _))
                  have P17_67 : Hid (Pend W67 v66 W66.heap.size s.name) := by unfold Hid; rw [← hWn]; exact pend_bytes HR66.out _
                  refine hK.out _ _ HR67.out.bx (fun hHeld => ?_)
                  clear hK K hWn HR66 
                  refine wpAnyH_ready (rs := [18]) (by kernel_rfl) (by simp) ?_
                  refine AllReadyH.cons rfl (fun K hK => ?_) AllReadyH.nil
                  obtain ⟨v68, W68, happ, hrn, hpn⟩ := HR67.out.app (s.name.length) (grownCap W66 s.name.length 0 5) (rfl) P17_67.out (by simp only [List.length_append, be4_len, List.length_cons, List.length_nil]; omega)
                  have HA := Lib.hid happ
                  have HR68 := Lib.hid hrn
                  clear happ hrn hpn P17_67
                  refine step_app_eq (by rfl) 90 (by rfl) _ _ _ _ (by rfl) _ _ (by rfl) (by rfl) HA.out ?_
                  simp only [List.setIfInBounds_toArray, List.set_cons_zero, List.set_cons_succ]
                  refine hK.out _ _ HR68.out.bx (fun hHeld => ?_)
                  clear hK K HA HR67
                  refine wpAnyH_ready (rs := [19]) (by kernel_rfl) (by simp) ?_
                  refine AllReadyH.cons rfl (fun K hK => ?_) AllReadyH.nil
                  go_simp
                  refine hK.out _ _ HR68.out.bx (fun hHeld => ?_)
                  clear hK K
                  refine wpAnyH_done (by kernel_rfl) ?_ _
                  refine NoPanic.normal ?_
                  obtain ⟨v8, w8, happ, hbk⟩ := HLEAF.out W68 v68 HR68.out
                  have HA := Lib.hid happ
                  have HBK8 := Lib.hid hbk
                  have d3 : W68.cell? ⟨wr.heap.size, 3, none⟩ = some (.int .i64 s.add) := cell_of_block HR68.out.bx rfl
                  clear happ hbk HR68 HLEAF hHeld hcs
                  go_wp2_with fail
                  refine (rn_any _ _ HADD.out).mono ?_
                  rintro e wq ⟨rfl, rfl⟩
                  go_wp2_with (at_builtin; refine wpList_app_eq rfl _ _ _ _ rfl _ _ rfl rfl HA.out ?_)
                  exact ⟨⟨k + 1, by omega, by go_num, HBK8, HL8⟩, by simp [intOf]; omega⟩
                · go_simp
                  generalize hWn : Lib.bytesWorld W65 _ _ = W70
                  have HR70 := Lib.hid (HR65.out.grow (W' := W70) (by rw [← hWn]; exact below_bytes _ _))
                  have P13_70 := Lib.hid (P13_65.out.grow (W' := W70) (by rw [← hWn]; exact below_bytes _ _))
                  have P17_70 : Hid (Pend W70 v65 W65.heap.size s.name) := by unfold Hid; rw [← hWn]; exact pend_bytes HR65.out _
                  refine hK.out _ _ HR70.out.bx (fun hHeld => ?_)
                  clear hK K hWn HR65 P13_65
                  refine wpAnyH_ready (rs := [14]) (by kernel_rfl) (by simp) ?_
                  refine AllReadyH.cons rfl (fun K hK => ?_) AllReadyH.nil
                  obtain ⟨v71, W71, happ, hrn, hpn⟩ := HR70.out.app (2) (2) (rfl) P13_70.out (by simp only [List.length_append, be4_len]; omega)
                  have HA := Lib.hid happ
                  have HR71 := Lib.hid hrn
                  have P17_71 := Lib.hid (hpn _ _ P17_70.out)
                  clear happ hrn hpn P13_70 P17_70
                  refine step_app_eq (by rfl) 86 (by rfl) _ _ _ _ (by rfl) _ _ (by rfl) (by rfl) HA.out ?_
                  simp only [List.setIfInBounds_toArray, List.set_cons_zero, List.set_cons_succ]
                  refine hK.out _ _ HR71.out.bx (fun hHeld => ?_)
                  clear hK K HA HR70
                  refine wpAnyH_ready (rs := [18]) (by kernel_rfl) (by simp) ?_
                  refine AllReadyH.cons rfl (fun K hK => ?_) AllReadyH.nil
                  obtain ⟨v72, W72, happ, hrn, hpn⟩ := HR71.out.app (s.name.length) (grownCap W65 s.name.length 0 5) (rfl) P17_71.out (by simp only [List.length_append, be4_len, List.length_cons, List.length_nil]; omega)
                  have HA := Lib.hid happ
                  have HR72 := Lib.hid hrn
                  clear happ hrn hpn P17_71
                  refine step_app_eq (by rfl) 90 (by rfl) _ _ _ _ (by rfl) _ _ (by rfl) (by rfl) HA.out ?_
                  simp only [List.setIfInBounds_toArray, List.set_cons_zero, List.set_cons_succ]
                  refine hK.out _ _ HR72.out.bx (fun hHeld => ?_)
                  clear hK K HA HR71
                  refine wpAnyH_ready (rs := [19]) (by kernel_rfl) (by simp) ?_
                  refine AllReadyH.cons rfl (fun K hK => ?_) AllReadyH.nil
                  go_simp
                  refine hK.out _ _ HR72.out.bx (fun hHeld => ?_)
                  clear hK K
                  refine wpAnyH_done (by kernel_rfl) ?_ _
                  refine NoPanic.normal ?_
                  obtain ⟨v8, w8, happ, hbk⟩ := HLEAF.out W72 v72 HR72.out
                  have HA := Lib.hid happ
                  have HBK8 := Lib.hid hbk
                  have d3 : W72.cell? ⟨wr.heap.size, 3, none⟩ = some (.int .i64 s.add) := cell_of_block HR72.out.bx rfl
                  clear happ hbk HR72 HLEAF hHeld hcs
                  go_wp2_with fail
                  refine (rn_any _ _ HADD.out).mono ?_
                  rintro e wq ⟨rfl, rfl⟩
                  go_wp2_with (at_builtin; refine wpList_app_eq rfl _ _ _ _ rfl _ _ rfl rfl HA.out ?_)
                  exact ⟨⟨k + 1, by omega, by go_num, HBK8, HL8⟩, by simp [intOf]; omega⟩
              · go_simp
                generalize hWn : Lib.bytesWorld W64 _ _ = W74
                have HR74 := Lib.hid (HR64.out.grow (W' := W74) (by rw [← hWn]; exact below_bytes _ _))
                have P13_74 := Lib.hid (P13_64.out.grow (W' := W74) (by rw [← hWn]; exact below_bytes _ _))
                have P4_74 := Lib.hid (P4_64.out.grow (W' := W74) (by rw [← hWn]; exact below_bytes _ _))
                have P17_74 : Hid (Pend W74 u6 W64.heap.size s.name) := by unfold Hid; rw [← hWn]; exact pend_bytes HR64.out _
                refine hK.out _ _ HR74.out.bx (fun hHeld => ?_)
                clear hK K hWn HR64 P13_64 P4_64
                refine wpAnyH_ready (rs := [5]) (by kernel_rfl) (by simp) ?_
                refine AllReadyH.cons rfl (fun K hK => ?_) AllReadyH.nil
                obtain ⟨v75, W75, happ, hrn, hpn⟩ := HR74.out.app (4) (4) (rfl) P4_74.out (by omega)
                have HA := Lib.hid happ
                have HR75 := Lib.hid hrn
                have P13_75 := Lib.hid (hpn _ _ P13_74.out)
                have P17_75 := Lib.hid (hpn _ _ P17_74.out)
                clear happ hrn hpn P13_74 P4_74 P17_74
                refine step_app_eq (by rfl) 77 (by rfl) _ _ _ _ (by rfl) _ _ (by rfl) (by rfl) HA.out ?_
                simp only [List.setIfInBounds_toArray, List.set_cons_zero, List.set_cons_succ]
                refine hK.out _ _ HR75.out.bx (fun hHeld => ?_)
                clear hK K HA HR74
                refine wpAnyH_ready (rs := [14]) (by kernel_rfl) (by simp) ?_
                refine AllReadyH.cons rfl (fun K hK => ?_) AllReadyH.nil
                obtain ⟨v76, W76, happ, hrn, hpn⟩ := HR75.out.app (2) (2) (rfl) P13_75.out (by simp only [List.length_append, be4_len]; omega)
                have HA := Lib.hid happ
                have HR76 := Lib.hid hrn
                have P17_76 := Lib.hid (hpn _ _ P17_75.out)
                clear happ hrn hpn P13_75 P17_75
                refine step_app_eq (by rfl) 86 (by rfl) _ _ _ _ (by rfl) _ _ (by rfl) (by rfl) HA.out ?_
                simp only [List.setIfInBounds_toArray, List.set_cons_zero, List.set_cons_succ]
                refine hK.out _ _ HR76.out.bx (fun hHeld => ?_)
                clear hK K HA HR75
                refine wpAnyH_ready (rs := [18]) (by kernel_rfl) (by simp) ?_
                refine AllReadyH.cons rfl (fun K hK => ?_) AllReadyH.nil
                obtain ⟨v77, W77, happ, hrn, hpn⟩ := HR76.out.app (s.name.length) (grownCap W64 s.name.length 0 5) (rfl) P17_76.out (by simp only [List.length_append, be4_len, List.length_cons, List.length_nil]; omega)
                have HA := Lib.hid happ
                have HR77 := Lib.hid hrn
                clear happ hrn hpn P17_76
                refine step_app_eq (by rfl) 90 (by rfl) _ _ _ _ (by rfl) _ _ (by rfl) (by rfl) HA.out ?_
                simp only [List.setIfInBounds_toArray, List.set_cons_zero, List.set_cons_succ]
                refine hK.out _ _ HR77.out.bx (fun hHeld => ?_)
                clear hK K HA HR76
                refine wpAnyH_ready (rs := [19]) (by kernel_rfl) (by simp) ?_
                refine AllReadyH.cons rfl (fun K hK => ?_) AllReadyH.nil
                go_simp
                refine hK.out _ _ HR77.out.bx (fun hHeld => ?_)
                clear hK K
                refine wpAnyH_done (by kernel_rfl) ?_ _
                refine NoPanic.normal ?_
                obtain ⟨v8, w8, happ, hbk⟩ := HLEAF.out W77 v77 HR77.out
                have HA := Lib.hid happ
                have HBK8 := Lib.hid hbk
                have d3 : W77.cell? ⟨wr.heap.size, 3, none⟩ = some (.int .i64 s.add) := cell_of_block HR77.out.bx rfl
                clear happ hbk HR77 HLEAF hHeld hcs
                go_wp2_with fail
                refine (rn_any _ _ HADD.out).mono ?_
                rintro e wq ⟨rfl, rfl⟩
                go_wp2_with (at_builtin; refine wpList_app_eq rfl _ _ _ _ rfl _ _ rfl rfl HA.out ?_)
                exact ⟨⟨k + 1, by omega, by go_num, HBK8, HL8⟩, by simp [intOf]; omega⟩
            · go_simp
              generalize hWn : Lib.bytesWorld W63 _ _ = W79
              have HR79 := Lib.hid (HR63.out.grow (W' := W79) (by rw [← hWn]; exact below_bytes _ _))
              have P13_79 := Lib.hid (P13_63.out.grow (W' := W79) (by rw [← hWn]; exact below_bytes _ _))
              have P17_79 : Hid (Pend W79 u6 W63.heap.size s.name) := by unfold Hid; rw [← hWn]; exact pend_bytes HR63.out _
              refine hK.out _ _ HR79.out.bx (fun hHeld => ?_)
              clear hK K hWn HR63 P13_63
              refine wpAnyH_ready (rs := [4]) (by kernel_rfl) (by simp) ?_
              refine AllReadyH.cons rfl (fun K hK => ?_) AllReadyH.nil
              go_simp
              refine (rn_any _ _ (by omega)).mono ?_
              rintro e W80 ⟨rfl, hWq⟩
              have hWn := hWq.symm
              clear hWq
              have HR80 := Lib.hid (HR79.out.grow (W' := W80) (by rw [← hWn]; exact oalloc _ _))
              have P13_80 := Lib.hid (P13_79.out.grow (W' := W80) (by rw [← hWn]; exact oalloc _ _))
              have P17_80 := Lib.hid (P17_79.out.grow (W' := W80) (by rw [← hWn]; exact oalloc _ _))
              have P4_80 : Hid (Pend W80 u6 W79.heap.size (be4 s.pos)) := by unfold Hid; rw [← hWn]; exact pend_alloc HR79.out rfl
              refine hK.out _ _ HR80.out.bx (fun hHeld => ?_)
              clear hK K hWn HR79 P13_79 P17_79
              refine wpAnyH_ready (rs := [5]) (by kernel_rfl) (by simp) ?_
              refine AllReadyH.cons rfl (fun K hK => ?_) AllReadyH.nil
              obtain ⟨v81, W81, happ, hrn, hpn⟩ := HR80.out.app (4) (4) (rfl) P4_80.out (by omega)
              have HA := Lib.hid happ
              have HR81 := Lib.hid hrn
              have P13_81 := Lib.hid (hpn _ _ P13_80.out)
              have P17_81 := Lib.hid (hpn _ _ P17_80.out)
              clear happ hrn hpn P13_80 P17_80 P4_80
              refine step_app_eq (by rfl) 77 (by rfl) _ _ _ _ (by rfl) _ _ (by rfl) (by rfl) HA.out ?_
              simp only [List.setIfInBounds_toArray, List.set_cons_zero, List.set_cons_succ]
              refine hK.out _ _ HR81.out.bx (fun hHeld => ?_)
              clear hK K HA HR80
              refine wpAnyH_ready (rs := [14]) (by kernel_rfl) (by simp) ?_
              refine AllReadyH.cons rfl (fun K hK => ?_) AllReadyH.nil
              obtain ⟨v82, W82, happ, hrn, hpn⟩ := HR81.out.app (2) (2) (rfl) P13_81.out (by simp only [List.length_append, be4_len]; omega)
              have HA := Lib.hid happ
              have HR82 := Lib.hid hrn
              have P17_82 := Lib.hid (hpn _ _ P17_81.out)
              clear happ hrn hpn P13_81 P17_81
              refine step_app_eq (by rfl) 86 (by rfl) _ _ _ _ (by rfl) _ _ (by rfl) (by rfl) HA.out ?_
              simp only [List.setIfInBounds_toArray, List.set_cons_zero, List.set_cons_succ]
              refine hK.out _ _ HR82.out.bx (fun hHeld => ?_)
              clear hK K HA HR81
              refine wpAnyH_ready (rs := [18]) (by kernel_rfl) (by simp) ?_
              refine AllReadyH.cons rfl (fun K hK => ?_) AllReadyH.nil
              obtain ⟨v83, W83, happ, hrn, hpn⟩ := HR82.out.app (s.name.length) (grownCap W63 s.name.length 0 5) (rfl) P17_82.out (by simp only [List.length_append, be4_len, List.length_cons, List.length_nil]; omega)
              have HA := Lib.hid happ
              have HR83 := Lib.hid hrn
              clear happ hrn hpn P17_82
              refine step_app_eq (by rfl) 90 (by rfl) _ _ _ _ (by rfl) _ _ (by rfl) (by rfl) HA.out ?_
              simp only [List.setIfInBounds_toArray, List.set_cons_zero, List.set_cons_succ]
              refine hK.out _ _ HR83.out.bx (fun hHeld => ?_)
              clear hK K HA HR82
              refine wpAnyH_ready (rs := [19]) (by kernel_rfl) (by simp) ?_
              refine AllReadyH.cons rfl (fun K hK => ?_) AllReadyH.nil
              go_simp
              refine hK.out _ _ HR83.out.bx (fun hHeld => ?_)
              clear hK K
              refine wpAnyH_done (by kernel_rfl) ?_ _
              refine NoPanic.normal ?_
              obtain ⟨v8, w8, happ, hbk⟩ := HLEAF.out W83 v83 HR83.out
              have HA := Lib.hid happ
              have HBK8 := Lib.hid hbk
              have d3 : W83.cell? ⟨wr.heap.size, 3, none⟩ = some (.int .i64 s.add) := cell_of_block HR83.out.bx rfl
              clear happ hbk HR83 HLEAF hHeld hcs
              go_wp2_with fail
              refine (rn_any _ _ HADD.out).mono ?_
              rintro e wq ⟨rfl, rfl⟩
              go_wp2_with (at_builtin; refine wpList_app_eq rfl _ _ _ _ rfl _ _ rfl rfl HA.out ?_)
              exact ⟨⟨k + 1, by omega, by go_num, HBK8, HL8⟩, by simp [intOf]; omega⟩
          · go_simp
            generalize hWn : Lib.bytesWorld W0 _ _ = W85
            have HR85 := Lib.hid (HRa.out.grow (W' := W85) (by rw [← hWn]; exact below_bytes _ _))
            have P17_85 : Hid (Pend W85 u6 W0.heap.size s.name) := by unfold Hid; rw [← hWn]; exact pend_bytes HRa.out _
            refine hK.out _ _ HR85.out.bx (fun hHeld => ?_)
            clear hK K hWn HRa 
            refine wpAnyH_ready (rs := [4, 13]) (by kernel_rfl) (by simp) ?_
            refine AllReadyH.cons rfl (fun K hK => ?_) (AllReadyH.cons rfl (fun K hK => ?_) AllReadyH.nil)
            · go_simp
              refine (rn_any _ _ (by omega)).mono ?_
              rintro e W86 ⟨rfl, hWq⟩
              have hWn := hWq.symm
              clear hWq
              have HR86 := Lib.hid (HR85.out.grow (W' := W86) (by rw [← hWn]; exact oalloc _ _))
              have P17_86 := Lib.hid (P17_85.out.grow (W' := W86) (by rw [← hWn]; exact oalloc _ _))
              have P4_86 : Hid (Pend W86 u6 W85.heap.size (be4 s.pos)) := by unfold Hid; rw [← hWn]; exact pend_alloc HR85.out rfl
              refine hK.out _ _ HR86.out.bx (fun hHeld => ?_)
              clear hK K hWn HR85 P17_85
              refine wpAnyH_ready (rs := [5, 13]) (by kernel_rfl) (by simp) ?_
              refine AllReadyH.cons rfl (fun K hK => ?_) (AllReadyH.cons rfl (fun K hK => ?_) AllReadyH.nil)
              · obtain ⟨v87, W87, happ, hrn, hpn⟩ := HR86.out.app (4) (4) (rfl) P4_86.out (by omega)
                have HA := Lib.hid happ
                have HR87 := Lib.hid hrn
                have P17_87 := Lib.hid (hpn _ _ P17_86.out)
                clear happ hrn hpn P17_86 P4_86
                refine step_app_eq (by rfl) 77 (by rfl) _ _ _ _ (by rfl) _ _ (by rfl) (by rfl) HA.out ?_
                simp only [List.setIfInBounds_toArray, List.set_cons_zero, List.set_cons_succ]
                refine hK.out _ _ HR87.out.bx (fun hHeld => ?_)
                clear hK K HA HR86
                refine wpAnyH_ready (rs := [13]) (by kernel_rfl) (by simp) ?_
                refine AllReadyH.cons rfl (fun K hK => ?_) AllReadyH.nil
                go_simp
                generalize hWn : World.alloc W87 _ = W88
                have HR88 := Lib.hid (HR87.out.grow (W' := W88) (by rw [← hWn]; exact oalloc _ _))
                have P17_88 := Lib.hid (P17_87.out.grow (W' := W88) (by rw [← hWn]; exact oalloc _ _))
                have P13_88 : Hid (Pend W88 v87 W87.heap.size [lowB s.size, lowB s.name.length]) := by unfold Hid; rw [← hWn]; exact pend_alloc HR87.out (by simp [bcells, lowB_nat, IntKind.wrap_u8])
                refine hK.out _ _ HR88.out.bx (fun hHeld => ?_)
                clear hK K hWn HR87 P17_87
                refine wpAnyH_ready (rs := [14]) (by kernel_rfl) (by simp) ?_
                refine AllReadyH.cons rfl (fun K hK => ?_) AllReadyH.nil
                obtain ⟨v89, W89, happ, hrn, hpn⟩ := HR88.out.app (2) (2) (rfl) P13_88.out (by simp only [List.length_append, be4_len]; omega)
                have HA := Lib.hid happ
                have HR89 := Lib.hid hrn
                have P17_89 := Lib.hid (hpn _ _ P17_88.out)
                clear happ hrn hpn P17_88 P13_88
                refine step_app_eq (by rfl) 86 (by rfl) _ _ _ _ (by rfl) _ _ (by rfl) (by rfl) HA.out ?_
                simp only [List.setIfInBounds_toArray, List.set_cons_zero, List.set_cons_succ]
                refine hK.out _ _ HR89.out.bx (fun hHeld => ?_)
                clear hK K HA HR88
                refine wpAnyH_ready (rs := [18]) (by kernel_rfl) (by simp) ?_
                refine AllReadyH.cons rfl (fun K hK => ?_) AllReadyH.nil
                obtain ⟨v90, W90, happ, hrn, hpn⟩ := HR89.out.app (s.name.length) (grownCap W0 s.name.length 0 5) (rfl) P17_89.out (by simp only [List.length_append, be4_len, List.length_cons, List.length_nil]; omega)
                have HA := Lib.hid happ
                have HR90 := Lib.hid hrn
                clear happ hrn hpn P17_89
                refine step_app_eq (by rfl) 90 (by rfl) _ _ _ _ (by rfl) _ _ (by rfl) (by rfl) HA.out ?_
                simp only [List.setIfInBounds_toArray, List.set_cons_zero, List.set_cons_succ]
                refine hK.out _ _ HR90.out.bx (fun hHeld => ?_)
                clear hK K HA HR89
                refine wpAnyH_ready (rs := [19]) (by kernel_rfl) (by simp) ?_
                refine AllReadyH.cons rfl (fun K hK => ?_) AllReadyH.nil
                go_simp
                refine hK.out _ _ HR90.out.bx (fun hHeld => ?_)
                clear hK K
                refine wpAnyH_done (by kernel_rfl) ?_ _
                refine NoPanic.normal ?_
                obtain ⟨v8, w8, happ, hbk⟩ := HLEAF.out W90 v90 HR90.out
                have HA := Lib.hid happ
                have HBK8 := Lib.hid hbk
                have d3 : W90.cell? ⟨wr.heap.size, 3, none⟩ = some (.int .i64 s.add) := cell_of_block HR90.out.bx rfl
                clear happ hbk HR90 HLEAF hHeld hcs
                go_wp2_with fail
                refine (rn_any _ _ HADD.out).mono ?_
                rintro e wq ⟨rfl, rfl⟩
                go_wp2_with (at_builtin; refine wpList_app_eq rfl _ _ _ _ rfl _ _ rfl rfl HA.out ?_)
                exact ⟨⟨k + 1, by omega, by go_num, HBK8, HL8⟩, by simp [intOf]; omega⟩
              · go_simp
                generalize hWn : World.alloc W86 _ = W92
                have HR92 := Lib.hid (HR86.out.grow (W' := W92) (by rw [← hWn]; exact oalloc _ _))
                have P17_92 := Lib.hid (P17_86.out.grow (W' := W92) (by rw [← hWn]; exact oalloc _ _))
                have P4_92 := Lib.hid (P4_86.out.grow (W' := W92) (by rw [← hWn]; exact oalloc _ _))
                have P13_92 : Hid (Pend W92 u6 W86.heap.size [lowB s.size, lowB s.name.length]) := by unfold Hid; rw [← hWn]; exact pend_alloc HR86.out (by simp [bcells, lowB_nat, IntKind.wrap_u8])
                refine hK.out _ _ HR92.out.bx (fun hHeld => ?_)
                clear hK K hWn HR86 P17_86 P4_86
                refine wpAnyH_ready (rs := [5]) (by kernel_rfl) (by simp) ?_
                refine AllReadyH.cons rfl (fun K hK => ?_) AllReadyH.nil
                obtain ⟨v93, W93, happ, hrn, hpn⟩ := HR92.out.app (4) (4) (rfl) P4_92.out (by omega)
                have HA := Lib.hid happ
                have HR93 := Lib.hid hrn
                have P17_93 := Lib.hid (hpn _ _ P17_92.out)
                have P13_93 := Lib.hid (hpn _ _ P13_92.out)
                clear happ hrn hpn P17_92 P4_92 P13_92
                refine step_app_eq (by rfl) 77 (by rfl) _ _ _ _ (by rfl) _ _ (by rfl) (by rfl) HA.out ?_
                simp only [List.setIfInBounds_toArray, List.set_cons_zero, List.set_cons_succ]
                refine hK.out _ _ HR93.out.bx (fun hHeld => ?_)
                clear hK K HA HR92
                refine wpAnyH_ready (rs := [14]) (by kernel_rfl) (by simp) ?_
                refine AllReadyH.cons rfl (fun K hK => ?_) AllReadyH.nil
                obtain ⟨v94, W94, happ, hrn, hpn⟩ := HR93.out.app (2) (2) (rfl) P13_93.out (by simp only [List.length_append, be4_len]; omega)
                have HA := Lib.hid happ
                have HR94 := Lib.hid hrn
                have P17_94 := Lib.hid (hpn _ _ P17_93.out)
                clear happ hrn hpn P17_93 P13_93
                refine step_app_eq (by rfl) 86 (by rfl) _ _ _ _ (by rfl) _ _ (by rfl) (by rfl) HA.out ?_
                simp only [List.setIfInBounds_toArray, List.set_cons_zero, List.set_cons_succ]
                refine hK.out _ _ HR94.out.bx (fun hHeld => ?_)
                clear hK K HA HR93
                refine wpAnyH_ready (rs := [18]) (by kernel_rfl) (by simp) ?_
                refine AllReadyH.cons rfl (fun K hK => ?_) AllReadyH.nil
                obtain ⟨v95, W95, happ, hrn, hpn⟩ := HR94.out.app (s.name.length) (grownCap W0 s.name.length 0 5) (rfl) P17_94.out (by simp only [List.length_append, be4_len, List.length_cons, List.length_nil]; omega)
                have HA := Lib.hid happ
                have HR95 := Lib.hid hrn
                clear happ hrn hpn P17_94
                refine step_app_eq (by rfl) 90 (by rfl) _ _ _ _ (by rfl) _ _ (by rfl) (by rfl) HA.out ?_
                simp only [List.setIfInBounds_toArray, List.set_cons_zero, List.set_cons_succ]
                refine hK.out _ _ HR95.out.bx (fun hHeld => ?_)
                clear hK K HA HR94
                refine wpAnyH_ready (rs := [19]) (by kernel_rfl) (by simp) ?_
                refine AllReadyH.cons rfl (fun K hK => ?_) AllReadyH.nil
                go_simp
                refine hK.out _ _ HR95.out.bx (fun hHeld => ?_)
                clear hK K
                refine wpAnyH_done (by kernel_rfl) ?_ _
                refine NoPanic.normal ?_
                obtain ⟨v8, w8, happ, hbk⟩ := HLEAF.out W95 v95 HR95.out
                have HA := Lib.hid happ
                have HBK8 := Lib.hid hbk
                have d3 : W95.cell? ⟨wr.heap.size, 3, none⟩ = some (.int .i64 s.add) := cell_of_block HR95.out.bx rfl
                clear happ hbk HR95 HLEAF hHeld hcs
                go_wp2_with fail
                refine (rn_any _ _ HADD.out).mono ?_
                rintro e wq ⟨rfl, rfl⟩
                go_wp2_with (at_builtin; refine wpList_app_eq rfl _ _ _ _ rfl _ _ rfl rfl HA.out ?_)
                exact ⟨⟨k + 1, by omega, by go_num, HBK8, HL8⟩, by simp [intOf]; omega⟩
            · go_simp
              generalize hWn : World.alloc W85 _ = W97
              have HR97 := Lib.hid (HR85.out.grow (W' := W97) (by rw [← hWn]; exact oalloc _ _))
              have P17_97 := Lib.hid (P17_85.out.grow (W' := W97) (by rw [← hWn]; exact oalloc _ _))
              have P13_97 : Hid (Pend W97 u6 W85.heap.size [lowB s.size, lowB s.name.length]) := by unfold Hid; rw [← hWn]; exact pend_alloc HR85.out (by simp [bcells, lowB_nat, IntKind.wrap_u8])
              refine hK.out _ _ HR97.out.bx (fun hHeld => ?_)
              clear hK K hWn HR85 P17_85
              refine wpAnyH_ready (rs := [4]) (by kernel_rfl) (by simp) ?_
              refine AllReadyH.cons rfl (fun K hK => ?_) AllReadyH.nil
              go_simp
              refine (rn_any _ _ (by omega)).mono ?_
              rintro e W98 ⟨rfl, hWq⟩
              have hWn := hWq.symm
              clear hWq
              have HR98 := Lib.hid (HR97.out.grow (W' := W98) (by rw [← hWn]; exact oalloc _ _))
              have P17_98 := Lib.hid (P17_97.out.grow (W' := W98) (by rw [← hWn]; exact oalloc _ _))
              have P13_98 := Lib.hid (P13_97.out.grow (W' := W98) (by rw [← hWn]; exact oalloc _ _))
              have P4_98 : Hid (Pend W98 u6 W97.heap.size (be4 s.pos)) := by unfold Hid; rw [← hWn]; exact pend_alloc HR97.out rfl
              refine hK.out _ _ HR98.out.bx (fun hHeld => ?_)
              clear hK K hWn HR97 P17_97 P13_97
              refine wpAnyH_ready (rs := [5]) (by kernel_rfl) (by simp) ?_
              refine AllReadyH.cons rfl (fun K hK => ?_) AllReadyH.nil
              obtain ⟨v99, W99, happ, hrn, hpn⟩ := HR98.out.app (4) (4) (rfl) P4_98.out (by omega)
              have HA := Lib.hid happ
              have HR99 := Lib.hid hrn
              have P17_99 := Lib.hid (hpn _ _ P17_98.out)
              have P13_99 := Lib.hid (hpn _ _ P13_98.out)
              clear happ hrn hpn P17_98 P13_98 P4_98
              refine step_app_eq (by rfl) 77 (by rfl) _ _ _ _ (by rfl) _ _ (by rfl) (by rfl) HA.out ?_
              simp only [List.setIfInBounds_toArray, List.set_cons_zero, List.set_cons_succ]
              refine hK.out _ _ HR99.out.bx (fun hHeld => ?_)
              clear hK K HA HR98
              refine wpAnyH_ready (rs := [14]) (by kernel_rfl) (by simp) ?_
              refine AllReadyH.cons rfl (fun K hK => ?_) AllReadyH.nil
              obtain ⟨v100, W100, happ, hrn, hpn⟩ := HR99.out.app (2) (2) (rfl) P13_99.out (by simp only [List.length_append, be4_len]; omega)
              have HA := Lib.hid happ
              have HR100 := Lib.hid hrn
              have P17_100 := Lib.hid (hpn _ _ P17_99.out)
              clear happ hrn hpn P17_99 P13_99
              refine step_app_eq (by rfl) 86 (by rfl) _ _ _ _ (by rfl) _ _ (by rfl) (by rfl) HA.out ?_
              simp only [List.setIfInBounds_toArray, List.set_cons_zero, List.set_cons_succ]
              refine hK.out _ _ HR100.out.bx (fun hHeld => ?_)
              clear hK K HA HR99
              refine wpAnyH_ready (rs := [18]) (by kernel_rfl) (by simp) ?_
              refine AllReadyH.cons rfl (fun K hK => ?_) AllReadyH.nil
              obtain ⟨v101, W101, happ, hrn, hpn⟩ := HR100.out.app (s.name.length) (grownCap W0 s.name.length 0 5) (rfl) P17_100.out (by simp only [List.length_append, be4_len, List.length_cons, List.length_nil]; omega)
              have HA := Lib.hid happ
              have HR101 := Lib.hid hrn
              clear happ hrn hpn P17_100
              refine step_app_eq (by rfl) 90 (by rfl) _ _ _ _ (by rfl) _ _ (by rfl) (by rfl) HA.out ?_
              simp only [List.setIfInBounds_toArray, List.set_cons_zero, List.set_cons_succ]
              refine hK.out _ _ HR101.out.bx (fun hHeld => ?_)
              clear hK K HA HR100
              refine wpAnyH_ready (rs := [19]) (by kernel_rfl) (by simp) ?_
              refine AllReadyH.cons rfl (fun K hK => ?_) AllReadyH.nil
              go_simp
              refine hK.out _ _ HR101.out.bx (fun hHeld => ?_)
              clear hK K
              refine wpAnyH_done (by kernel_rfl) ?_ _
              refine NoPanic.normal ?_
              obtain ⟨v8, w8, happ, hbk⟩ := HLEAF.out W101 v101 HR101.out
              have HA := Lib.hid happ
              have HBK8 := Lib.hid hbk
              have d3 : W101.cell? ⟨wr.heap.size, 3, none⟩ = some (.int .i64 s.add) := cell_of_block HR101.out.bx rfl
              clear happ hbk HR101 HLEAF hHeld hcs
              go_wp2_with fail
              refine (rn_any _ _ HADD.out).mono ?_
              rintro e wq ⟨rfl, rfl⟩
              go_wp2_with (at_builtin; refine wpList_app_eq rfl _ _ _ _ rfl _ _ rfl rfl HA.out ?_)
              exact ⟨⟨k + 1, by omega, by go_num, HBK8, HL8⟩, by simp [intOf]; omega⟩
        · have hk1 : ¬ (k : Int) < o.rels.length := by omega
          have hke : o.rels.take k = o.rels := List.take_of_length_le (by omega)
          rw [hke] at HBK
          rw [← bytesO_pre] at HBK
          have HO := Lib.hid (And.intro HBK.out.bel HBK.out.out)
          clear hke HBK HL HRC KR
          go_wp2
          go_ret2
          exact ⟨_, rfl, HO.out.1, HO.out.2⟩

end Go.Proofs.Ytobdcnpifbnjaac
