/- The program's own sim: Run. -/
import Derived.Test.YtabepbaldadmgaaDoorSnS
namespace Go.Proofs.YtabepbaldadmgaaDoor
open Go.RowKit Isa

/-- What comes of at most so many steps: the error, the machine. -/
def runE : Nat → Ma → Int
  | 0, _ => 13
  | k + 1, m => if stepE m ≠ 0 then stepE m else if stepD m = true then 0 else runE k (stepM m)
def runM : Nat → Ma → Ma
  | 0, _ => zeroM
  | k + 1, m => if stepE m ≠ 0 then zeroM else if stepD m = true then stepM m else runM k (stepM m)
theorem stepE_fetch {m : Ma} (h : stepE m = 0) : fetchE m m.pc = 0 := by
  unfold stepE at h
  by_cases he : fetchE m m.pc = 0
  · exact he
  · rw [if_pos he] at h
    exact absurd h he
theorem step_len {m : Ma} : (stepM m).by'.length = m.by'.length := by
  unfold stepM
  have pp : (preM m).by' = m.by' := by unfold preM; split <;> rfl
  split
  · rfl
  · split
    · exact (plain_keep { m with st := m.st + 1 } _ _ _ _ _).2.1
    · split
      · rfl
      · show (plainM (preM m) _ _ _ _ _).by'.length = _
        rw [(plain_keep (preM m) _ _ _ _ _).2.1, pp]

/-- The machine M has come of m in k steps, of which n are to be made. -/
structure RunAt (n : Nat) (m : Ma) (k : Nat) (M : Ma) : Prop where
  rn : Runs M k
  ee : runE n m = runE (n - k) M
  mm : runM n m = runM (n - k) M
  ln : M.by'.length = m.by'.length
theorem RunAt.step {n : Nat} {m : Ma} {k : Nat} {M : Ma} (h : RunAt n m k M) (hk : k < n) (h0 : stepE M = 0) (hd : stepD M = false) : RunAt n m (k + 1) (stepM M) := by
  have e : n - k = (n - (k + 1)) + 1 := by omega
  refine ⟨(runs_step h.rn (stepE_fetch h0)).1, ?_, ?_, by rw [step_len, h.ln]⟩
  · rw [h.ee, e, runE, if_neg (by simp [h0]), if_neg (by simp [hd])]
  · rw [h.mm, e, runM, if_neg (by simp [h0]), if_neg (by simp [hd])]
theorem RunAt.bad {n : Nat} {m : Ma} {k : Nat} {M : Ma} (h : RunAt n m k M) (hk : k < n) (h0 : stepE M ≠ 0) : runE n m = stepE M := by
  have e : n - k = (n - (k + 1)) + 1 := by omega
  rw [h.ee, e, runE, if_pos h0]
theorem RunAt.fin {n : Nat} {m : Ma} {k : Nat} {M : Ma} (h : RunAt n m k M) (hk : k < n) (h0 : stepE M = 0) (hd : stepD M = true) : runE n m = 0 ∧ runM n m = stepM M := by
  have e : n - k = (n - (k + 1)) + 1 := by omega
  refine ⟨?_, ?_⟩
  · rw [h.ee, e, runE, if_neg (by simp [h0]), if_pos hd]
  · rw [h.mm, e, runM, if_neg (by simp [h0]), if_pos hd]
theorem RunAt.out {n : Nat} {m : Ma} {M : Ma} (h : RunAt n m n M) : runE n m = 13 := by
  rw [h.ee, Nat.sub_self]
  rfl

/-- What lies in memory while Run runs. -/
structure RS (w : World) (gb gs gt : Nat) (sy : List Sy) (len : Nat) (M : Ma) (W : World) : Prop where
  bel : Below w.heap.size w W
  res : W.heap[w.heap.size + 1]? = some (.cells zC 29 (0, 0))
  mr : ∃ ta tc, MR gt w.heap.size M gb len (.slice (some ⟨gs, 0, none⟩) sy.length sy.length) ta tc W
  sym : W.heap[gs]? = some (.cells (scells sy).toArray 61 (0, 0))
  h1 : w.heap.size + 1 < gt
  h2 : gs < gt
  h3 : w.heap.size + 1 < gb
  h4 : w.heap.size + 1 < gs
theorem RS.keep {w : World} {gb gs gt : Nat} {sy : List Sy} {len : Nat} {M : Ma} {W : World} (h : RS w gb gs gt sy len M W) {W' : World} {M' : Ma} (hk : Kept gt w.heap.size gb W W') (hm : ∃ ta tc, MR gt w.heap.size M' gb len (.slice (some ⟨gs, 0, none⟩) sy.length sy.length) ta tc W') : RS w gb gs gt sy len M' W' := by
  have hgs : gs ≠ gb := by
    intro e
    obtain ⟨ta, tc, hmr⟩ := h.mr
    have h1 := h.sym
    rw [e, hmr.bb] at h1
    injection h1 with h1
    injection h1 with _ h2
    exact absurd h2 (by decide)
  have hh1 := h.h1
  have hh3 := h.h3
  have hh4 := h.h4
  exact ⟨h.bel.trans (hk.below (by omega) (Nat.le_refl _) (by omega)), by rw [hk.block _ (by omega) (by omega) (by omega)]; exact h.res, hm, by rw [hk.block _ h.h2 (by omega) hgs]; exact h.sym, h.h1, h.h2, h.h3, h.h4⟩

theorem res_r {fn : Func} (hr : fn.results = #[.cell 4 29, .tmp 5]) {T : Array Value} {W : World} {g : Nat} {e : Int} {c : Array Value} (h2 : T.getD 4 undef = .pointer (some ⟨g, 0, none⟩)) (h3 : T.getD 5 undef = .int .i64 e) (hg : W.heap[g]? = some (.cells c 29 (0, 0))) (hs : (Tryd.prog.info? 29).map (·.size) = some c.size) :
    (results fn T).run Tryd.prog W = .ok (.tuple #[.agg c, .int .i64 e]) W := by
  have hl := run_loadVar_row (P := Tryd.prog) W g 29 29 c (0, 0) _ hg Tryd.underlying29 rfl hs
  have h2' : T[4]?.getD undef = .pointer (some ⟨g, 0, none⟩) := by simpa using h2
  have h3' : T[5]?.getD undef = .int .i64 e := by simpa using h3
  simp [results, hr, h2', h3', asAddr, hl]

set_option maxHeartbeats 8000000 in
set_option maxRecDepth 100000 in
theorem run_out (m : Ma) (sy : List Sy) (v : Value) (most : Int) (w : World) (hv : MV w v m sy) (hm : most < 0 ∨ 2000 < most) :
    Calls Tryd.prog 15 #[v, .int .i64 most] w fun e w' => e = .returned (.tuple #[.agg zC, .int .i64 3]) ∧ Below w.heap.size w w' := by
  obtain ⟨ba, bc, s0, s2, ta, tc, rfl, hB, hT, hS⟩ := hv
  obtain ⟨V, hV⟩ : ∃ V, V = (w.alloc (.cells (mC m ba bc (.slice s0 sy.length s2) ta tc) 29)).alloc (.cells zC 29) := ⟨_, rfl⟩
  have hV0 : Below w.heap.size w V := by rw [hV]; exact (oalloc _ _).trans ((oalloc _ _).mono (by simp))
  have hV2 : V.heap[w.heap.size + 1]? = some (.cells zC 29 (0, 0)) := by
    rw [hV]
    have := blk_new (w.alloc (.cells (mC m ba bc (.slice s0 sy.length s2) ta tc) 29)) zC 29
    simpa using this
  have HV := Lib.hid hV.symm
  have HV2 := Lib.hid hV2
  have HB := Lib.hid hV0
  clear hV hV0 hV2 hB hT hS
  rw [zLit] at HV HV2
  rcases hm with hm | hm
  · go_enter Tryd.func15, Tryd.ntmps15
    go_upto_region 1 with fail
    rw [HV.out]
    clear HV
    go_wp2_with (first | (refine wpList_store_row rfl 29 _ _ rfl (w.heap.size + 1) #[.int .i64 0, .int .i64 0, .int .i64 0, .int .i64 0, .int .i64 0, .int .i64 0, .int .i64 0, .int .i64 0, .int .i64 0, .int .i64 0, .int .i64 0, .int .i64 0, .int .i64 0, .int .i64 0, .int .i64 0, .int .i64 0, .bool false, .int .i64 0, .int .i64 0, .int .i64 0, .slice none 0 0, .slice none 0 0, .slice none 0 0, .int .i64 0] rfl rfl 29 #[.int .i64 0, .int .i64 0, .int .i64 0, .int .i64 0, .int .i64 0, .int .i64 0, .int .i64 0, .int .i64 0, .int .i64 0, .int .i64 0, .int .i64 0, .int .i64 0, .int .i64 0, .int .i64 0, .int .i64 0, .int .i64 0, .bool false, .int .i64 0, .int .i64 0, .int .i64 0, .slice none 0 0, .slice none 0 0, .slice none 0 0, .int .i64 0] HV2.out zSize rfl zAll ?_) | fail)
    exact bodyPost_ret (v := .tuple #[.agg zC, .int .i64 3]) (res_r Tryd.results15 rfl rfl (setRow_heap _ _ _ _ _ _ HV2.out) zSize) rfl ⟨rfl, below_setRow HB.out (by omega) _⟩
  · have hm0 : ¬ most < 0 := by omega
    go_enter Tryd.func15, Tryd.ntmps15
    go_upto_region 1 with fail
    rw [HV.out]
    clear HV
    go_wp2_with (first | (refine wpList_store_row rfl 29 _ _ rfl (w.heap.size + 1) #[.int .i64 0, .int .i64 0, .int .i64 0, .int .i64 0, .int .i64 0, .int .i64 0, .int .i64 0, .int .i64 0, .int .i64 0, .int .i64 0, .int .i64 0, .int .i64 0, .int .i64 0, .int .i64 0, .int .i64 0, .int .i64 0, .bool false, .int .i64 0, .int .i64 0, .int .i64 0, .slice none 0 0, .slice none 0 0, .slice none 0 0, .int .i64 0] rfl rfl 29 #[.int .i64 0, .int .i64 0, .int .i64 0, .int .i64 0, .int .i64 0, .int .i64 0, .int .i64 0, .int .i64 0, .int .i64 0, .int .i64 0, .int .i64 0, .int .i64 0, .int .i64 0, .int .i64 0, .int .i64 0, .int .i64 0, .bool false, .int .i64 0, .int .i64 0, .int .i64 0, .slice none 0 0, .slice none 0 0, .slice none 0 0, .int .i64 0] HV2.out zSize rfl zAll ?_) | fail)
    exact bodyPost_ret (v := .tuple #[.agg zC, .int .i64 3]) (res_r Tryd.results15 rfl rfl (setRow_heap _ _ _ _ _ _ HV2.out) zSize) rfl ⟨rfl, below_setRow HB.out (by omega) _⟩

/-- What Run answers. -/
def RnPost (w : World) (n : Nat) (m : Ma) (sy : List Sy) (e : Ending) (w' : World) : Prop :=
  ∃ v', e = .returned (.tuple #[v', .int .i64 (runE n m)]) ∧ Below w.heap.size w w' ∧ ((runE n m ≠ 0 ∧ v' = .agg zC) ∨ (runE n m = 0 ∧ MVb w.heap.size w' v' (runM n m) sy))

set_option maxHeartbeats 8000000 in
set_option maxRecDepth 100000 in
theorem run_in (m : Ma) (sy : List Sy) (v : Value) (n : Nat) (w : World) (hv : MV w v m sy) (hL : Laid w) (hR : Runs m 0) (hn : n ≤ 2000) (hsl : sy.length * 24 ≤ 140737488355328) :
    Calls Tryd.prog 15 #[v, .int .i64 (n : Int)] w (RnPost w n m sy) := by
  obtain ⟨ba, bc, s0, s2, ta, tc, rfl, hB, hT, hS⟩ := hv
  have hbl := hR.bl
  have htl := hR.tl
  obtain ⟨V, hV⟩ : ∃ V, V = (w.alloc (.cells (mC m ba bc (.slice s0 sy.length s2) ta tc) 29)).alloc (.cells zC 29) := ⟨_, rfl⟩
  have hV0 : Below w.heap.size w V := by rw [hV]; exact (oalloc _ _).trans ((oalloc _ _).mono (by simp))
  have hV1 : V.heap[w.heap.size]? = some (.cells (mC m ba bc (.slice s0 sy.length s2) ta tc) 29 (0, 0)) := by rw [hV, (oalloc _ _).block _ (by simp)]; exact blk_new _ _ _
  have hV2 : V.heap[w.heap.size + 1]? = some (.cells zC 29 (0, 0)) := by
    rw [hV]
    have := blk_new (w.alloc (.cells (mC m ba bc (.slice s0 sy.length s2) ta tc) 29)) zC 29
    simpa using this
  have hlt1 := (Array.getElem?_eq_some_iff.1 hV1).1
  have hlt2 := (Array.getElem?_eq_some_iff.1 hV2).1
  have HO : Hid (Calls Tryd.prog 10 #[.agg (mC m ba bc (.slice s0 sy.length s2) ta tc)] V fun e w' => ∃ gb gs gt, e = .returned (.agg (mC m (some ⟨gb, 0, none⟩) m.by'.length (.slice (some ⟨gs, 0, none⟩) sy.length sy.length) (some ⟨gt, 0, none⟩) m.told.length)) ∧ w'.heap[w.heap.size]? = some (.cells (mC m ba bc (.slice s0 sy.length s2) ta tc) 29 (0, 0)) ∧ RS w gb gs gt sy m.by'.length m (w'.setRow w.heap.size (mC m (some ⟨gb, 0, none⟩) m.by'.length (.slice (some ⟨gs, 0, none⟩) sy.length sy.length) (some ⟨gt, 0, none⟩) m.told.length))) := by
    refine (pown_any m ba bc sy s0 s2 ta tc V (hB.next hV0) (hS.below hV0 (Nat.le_refl _)) (hT.next hV0) (by omega) hsl (by omega)).mono ?_
    rintro e w' ⟨gb, gs, gt, rfl, hb, h1, h2, h3, h4, h5, h6, h7⟩
    have hbw := hV0.trans (hb.mono hV0.size)
    have hz := hV0.size
    have r0 := (hb.block _ hlt1).trans hV1
    have r1 := (hb.block _ hlt2).trans hV2
    refine ⟨gb, gs, gt, rfl, r0, ?_⟩
    have hold : ∀ {b : Nat} {o : Obj}, b ≠ w.heap.size → w'.heap[b]? = some o → (w'.setRow w.heap.size (mC m (some ⟨gb, 0, none⟩) m.by'.length (.slice (some ⟨gs, 0, none⟩) sy.length sy.length) (some ⟨gt, 0, none⟩) m.told.length)).heap[b]? = some o := fun {b o} hne hbo => by
      rw [setRow_other _ _ _ _ hne]
      exact hbo
    have hbX : Below w.heap.size w (w'.setRow w.heap.size (mC m (some ⟨gb, 0, none⟩) m.by'.length (.slice (some ⟨gs, 0, none⟩) sy.length sy.length) (some ⟨gt, 0, none⟩) m.told.length)) := below_setRow hbw (Nat.le_refl _) _
    have hMR := own_mr (w := V) (q := w.heap.size) (hL.below hbX hL.sz) (by have := hL.sz; omega) h1 h3 hL.sz (setRow_heap _ _ _ _ _ _ r0) (hold (by omega) h5) (hold (by omega) h7) (by unfold maxLen; omega)
    exact ⟨hbX, hold (by omega) r1, ⟨_, _, hMR⟩, hold (by omega) h6, by omega, h4, by omega, by omega⟩
  have HV := Lib.hid hV.symm
  have HV1 := Lib.hid hV1
  have HR0 : Hid (RunAt n m 0 m) := ⟨hR, rfl, rfl, rfl⟩
  have hw1 := hL.sz
  clear hV hV0 hV1 hV2 hB hT hS hL hR hlt1 hlt2
  rw [zLit] at HV
  go_enter Tryd.func15, Tryd.ntmps15
  go_upto_region 1 with fail
  rw [HV.out]
  clear HV
  have hn0 : ¬ (n : Int) < 0 := by omega
  have hn1 : ¬ (2000 : Int) < (n : Int) := by omega
  go_wp2_with (first | (refine wpList_load_row rfl 29 _ rfl w.heap.size rfl 29 (mC m ba bc (.slice s0 sy.length s2) ta tc) (0, 0) _ HV1.out Tryd.underlying29 rfl (mSize _ _ _ _ _ _) ?_) | (go_at_call 10; refine HO.out.mono ?_; rintro e W1 ⟨gb, gs, gt, rfl, hr0, hrs⟩; have HX0 := Lib.hid hr0; have HRS := Lib.hid hrs; clear hr0 hrs) | (refine wpList_store_row rfl 29 _ _ rfl w.heap.size (mC m (some ⟨gb, 0, none⟩) m.by'.length (.slice (some ⟨gs, 0, none⟩) sy.length sy.length) (some ⟨gt, 0, none⟩) m.told.length) rfl rfl 29 (mC m ba bc (.slice s0 sy.length s2) ta tc) HX0.out (mSize _ _ _ _ _ _) rfl (mAll _ _ _ _ _ _ _ _) ?_; generalize World.setRow W1 w.heap.size _ = X at *) | fail)
  go_loopw [18] (fun i wr => ∃ k : Nat, k ≤ n ∧ i = .int .i64 k ∧ ∃ M, Hid (RunAt n m k M) ∧ Hid (RS w gb gs gt sy m.by'.length M wr)) (fun i _ => n - (intOf i).toNat)
  case atStart => exact ⟨0, Nat.zero_le _, rfl, m, HR0, HRS⟩
  case round =>
    obtain ⟨k, hk, rfl, M, HA, HS⟩ := hrel
    clear HRS HR0 HO HX0 HV1
    by_cases hlt : k < n
    · have hk1 : (k : Int) < n := by omega
      have HST : Hid (Calls Tryd.prog 21 #[.pointer (some ⟨w.heap.size, 0, none⟩)] wr fun e W' => e = .returned (.tuple #[.bool (stepD M), .int .i64 (stepE M)]) ∧ Below w.heap.size w W' ∧ W'.heap[w.heap.size + 1]? = some (.cells zC 29 (0, 0)) ∧ (stepE M = 0 → RS w gb gs gt sy m.by'.length (stepM M) W')) := by
        obtain ⟨ta1, tc1, hmr⟩ := HS.out.mr
        refine (pstep_any gt w.heap.size M gb m.by'.length (some ⟨gs, 0, none⟩) sy.length sy.length ta1 tc1 k wr hmr HA.out.rn (by omega) (by rw [HA.out.ln]; exact Nat.le_refl _)).mono ?_
        rintro e W' ⟨rfl, hkp, hm'⟩
        have h1 := HS.out.h1
        have h3 := HS.out.h3
        refine ⟨?_, HS.out.bel.trans (hkp.below (by omega) (Nat.le_refl _) (by omega)), ?_, fun h0 => HS.out.keep hkp (hm' h0)⟩
        · by_cases h0 : stepE M = 0
          · rw [if_pos h0]
          · rw [if_neg h0, stepD_err h0]
        · rw [hkp.block _ (by omega) (by omega) (by omega)]
          exact HS.out.res
      by_cases h0 : stepE M = 0
      · by_cases hd : stepD M = true
        · have HF := Lib.hid (HA.out.fin hlt h0 hd)
          rw [h0, hd] at HST
          rw [zLit] at HST
          clear h0 hd HA HS
          generalize stepM M = M2 at *
          go_wp2_with (first | (go_at_call 21; refine HST.out.mono ?_; rintro e W2 ⟨rfl, hb2, hr2, hm2⟩; have hs2 := hm2 (by first | rfl | trivial); obtain ⟨ta2, tc2, hm3⟩ := hs2.mr; have HR2 := Lib.hid hr2; have HS2 := Lib.hid hs2; have HM3 := Lib.hid hm3; clear hb2 hr2 hm2 hs2 hm3) | (refine wpList_load_row rfl 29 _ rfl w.heap.size rfl 29 (mC M2 (some ⟨gb, 0, none⟩) m.by'.length (.slice (some ⟨gs, 0, none⟩) sy.length sy.length) ta2 tc2) (0, 0) _ HM3.out.b1 Tryd.underlying29 rfl (mSize _ _ _ _ _ _) ?_) | (refine wpList_store_row rfl 29 _ _ rfl (w.heap.size + 1) (mC M2 (some ⟨gb, 0, none⟩) m.by'.length (.slice (some ⟨gs, 0, none⟩) sy.length sy.length) ta2 tc2) rfl rfl 29 #[.int .i64 0, .int .i64 0, .int .i64 0, .int .i64 0, .int .i64 0, .int .i64 0, .int .i64 0, .int .i64 0, .int .i64 0, .int .i64 0, .int .i64 0, .int .i64 0, .int .i64 0, .int .i64 0, .int .i64 0, .int .i64 0, .bool false, .int .i64 0, .int .i64 0, .int .i64 0, .slice none 0 0, .slice none 0 0, .slice none 0 0, .int .i64 0] HR2.out (mSize _ _ _ _ _ _) rfl (mAll _ _ _ _ _ _ _ _) ?_) | fail)
          have hrow := HM3.out.row29 HR2.out (by omega) (by omega) (mC M2 (some ⟨gb, 0, none⟩) m.by'.length (.slice (some ⟨gs, 0, none⟩) sy.length sy.length) ta2 tc2)
          have hsy := setRow_other W2 (w.heap.size + 1) gs (mC M2 (some ⟨gb, 0, none⟩) m.by'.length (.slice (some ⟨gs, 0, none⟩) sy.length sy.length) ta2 tc2) (by have := HS2.out.h4; omega)
          exact bodyPost_ret (v := .tuple #[.agg (mC M2 (some ⟨gb, 0, none⟩) m.by'.length (.slice (some ⟨gs, 0, none⟩) sy.length sy.length) ta2 tc2), .int .i64 0]) (res_r Tryd.results15 rfl rfl (setRow_heap _ _ _ _ _ _ HR2.out) (mSize _ _ _ _ _ _)) rfl ⟨_, by rw [HF.out.1], below_setRow HS2.out.bel (by omega) _, Or.inr ⟨HF.out.1, by rw [HF.out.2]; exact hrow.mv (hsy.trans HS2.out.sym) (by have := HS2.out.h3; omega) (by have := HS2.out.h4; omega) (by have := HS2.out.h1; omega)⟩⟩
        · have hd' : stepD M = false := by simpa using hd
          have HN := Lib.hid (HA.out.step hlt h0 hd')
          rw [h0, hd'] at HST
          clear h0 hd hd' HA HS
          generalize stepM M = M2 at *
          go_wp2_with (first | (go_at_call 21; refine HST.out.mono ?_; rintro e W2 ⟨rfl, hb2, hr2, hm2⟩; have HS2 := Lib.hid (hm2 (by first | rfl | trivial)); clear hb2 hr2 hm2) | fail)
          exact ⟨⟨k + 1, by omega, by go_num, M2, HN, HS2⟩, by simp [intOf]; omega⟩
      · have HF := Lib.hid (HA.out.bad hlt h0)
        have HN := Lib.hid h0
        have h0b : (stepE M != 0) = true := by simpa using h0
        rw [zLit] at HST
        clear h0 HA HS
        generalize stepE M = EE at *
        generalize stepD M = DD at *
        go_wp2_with (first | (go_at_call 21; refine HST.out.mono ?_; rintro e W2 ⟨rfl, hb2, hr2, hm2⟩; have HB2 := Lib.hid hb2; have HR2 := Lib.hid hr2; clear hb2 hr2 hm2) | (refine wpList_store_row rfl 29 _ _ rfl (w.heap.size + 1) #[.int .i64 0, .int .i64 0, .int .i64 0, .int .i64 0, .int .i64 0, .int .i64 0, .int .i64 0, .int .i64 0, .int .i64 0, .int .i64 0, .int .i64 0, .int .i64 0, .int .i64 0, .int .i64 0, .int .i64 0, .int .i64 0, .bool false, .int .i64 0, .int .i64 0, .int .i64 0, .slice none 0 0, .slice none 0 0, .slice none 0 0, .int .i64 0] rfl rfl 29 #[.int .i64 0, .int .i64 0, .int .i64 0, .int .i64 0, .int .i64 0, .int .i64 0, .int .i64 0, .int .i64 0, .int .i64 0, .int .i64 0, .int .i64 0, .int .i64 0, .int .i64 0, .int .i64 0, .int .i64 0, .int .i64 0, .bool false, .int .i64 0, .int .i64 0, .int .i64 0, .slice none 0 0, .slice none 0 0, .slice none 0 0, .int .i64 0] HR2.out zSize rfl zAll ?_) | fail)
        exact bodyPost_ret (v := .tuple #[.agg zC, .int .i64 EE]) (res_r Tryd.results15 rfl rfl (setRow_heap _ _ _ _ _ _ HR2.out) zSize) rfl ⟨_, by rw [HF.out], below_setRow HB2.out (by omega) _, Or.inl ⟨by rw [HF.out]; exact HN.out, rfl⟩⟩
    · have hk1 : ¬ (k : Int) < n := by omega
      obtain rfl : k = n := by omega
      have HF := Lib.hid HA.out.out
      have HB2 := Lib.hid HS.out.bel
      have HR2 := Lib.hid HS.out.res
      rw [zLit] at HR2
      clear HA HS
      go_wp2_with (first | (refine wpList_store_row rfl 29 _ _ rfl (w.heap.size + 1) #[.int .i64 0, .int .i64 0, .int .i64 0, .int .i64 0, .int .i64 0, .int .i64 0, .int .i64 0, .int .i64 0, .int .i64 0, .int .i64 0, .int .i64 0, .int .i64 0, .int .i64 0, .int .i64 0, .int .i64 0, .int .i64 0, .bool false, .int .i64 0, .int .i64 0, .int .i64 0, .slice none 0 0, .slice none 0 0, .slice none 0 0, .int .i64 0] rfl rfl 29 #[.int .i64 0, .int .i64 0, .int .i64 0, .int .i64 0, .int .i64 0, .int .i64 0, .int .i64 0, .int .i64 0, .int .i64 0, .int .i64 0, .int .i64 0, .int .i64 0, .int .i64 0, .int .i64 0, .int .i64 0, .int .i64 0, .bool false, .int .i64 0, .int .i64 0, .int .i64 0, .slice none 0 0, .slice none 0 0, .slice none 0 0, .int .i64 0] HR2.out zSize rfl zAll ?_) | fail)
      exact bodyPost_ret (v := .tuple #[.agg zC, .int .i64 13]) (res_r Tryd.results15 rfl rfl (setRow_heap _ _ _ _ _ _ HR2.out) zSize) rfl ⟨_, by rw [HF.out], below_setRow HB2.out (by omega) _, Or.inl ⟨by rw [HF.out]; decide, rfl⟩⟩

end Go.Proofs.YtabepbaldadmgaaDoor
