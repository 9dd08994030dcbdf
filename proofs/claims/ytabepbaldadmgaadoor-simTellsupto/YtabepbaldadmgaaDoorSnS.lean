/- The program's own sim: Step. -/
import Derived.Test.YtabepbaldadmgaaDoorSnO
import Derived.Test.YtabepbaldadmgaaDoorSnR
namespace Go.Proofs.YtabepbaldadmgaaDoor
open Go.RowKit Isa

/-- The value reads as a machine whose image has these names. -/
def MV (w : World) (v : Value) (m : Ma) (sy : List Sy) : Prop := ∃ ba bc s0 s2 ta tc, v = .agg (mC m ba bc (.slice s0 sy.length s2) ta tc) ∧ BRd w ba m.by' ∧ TRd w ta m.told ∧ SrcOf w s0 sy.length (scells sy)
theorem MV.next {w w' : World} {v : Value} {m : Ma} {sy : List Sy} (h : MV w v m sy) (hb : Below w.heap.size w w') : MV w' v m sy := by
  obtain ⟨ba, bc, s0, s2, ta, tc, e, h1, h2, h3⟩ := h
  exact ⟨ba, bc, s0, s2, ta, tc, e, h1.next hb, h2.next hb, h3.below hb (Nat.le_refl _)⟩
theorem MV.zero (w : World) : MV w (.agg zC) zeroM [] := ⟨none, 0, none, 0, none, 0, rfl, fun h => absurd h (by decide), fun h => absurd h (by decide), fun h => absurd h (by decide)⟩

/-- The same; what it has lies in blocks from B on. -/
def MVb (B : Nat) (w : World) (v : Value) (m : Ma) (sy : List Sy) : Prop := ∃ ba bc s0 s2 ta tc, v = .agg (mC m ba bc (.slice s0 sy.length s2) ta tc) ∧ BRd w ba m.by' ∧ TRd w ta m.told ∧ SrcOf w s0 sy.length (scells sy) ∧ (∀ a, ba = some a → 0 < m.by'.length → B ≤ a.block) ∧ (∀ a, ta = some a → 0 < m.told.length → B ≤ a.block) ∧ (∀ a, s0 = some a → 0 < sy.length → B ≤ a.block)
theorem MVb.mv {B : Nat} {w : World} {v : Value} {m : Ma} {sy : List Sy} (h : MVb B w v m sy) : MV w v m sy := by
  obtain ⟨ba, bc, s0, s2, ta, tc, e, h1, h2, h3, _⟩ := h
  exact ⟨ba, bc, s0, s2, ta, tc, e, h1, h2, h3⟩

theorem stepD_err {m : Ma} (h : stepE m ≠ 0) : stepD m = false := by
  unfold stepD
  simp only [decide_eq_false_iff_not]
  rintro ⟨h1, h2⟩
  exact h (stepZ h1 h2).1

theorem MR.row29 {K g : Nat} {m : Ma} {gb bc : Nat} {sv : Value} {ta : Option Addr} {tc : Nat} {W : World} (h : MR K g m gb bc sv ta tc W) {r : Nat} {c0 : Array Value} (hr : W.heap[r]? = some (.cells c0 29 (0, 0))) (hne : g ≠ r) (h1r : 1 < r) (c : Array Value) : MR K g m gb bc sv ta tc (W.setRow r c) := by
  have hgb : gb ≠ r := by
    intro e
    have h1 := h.bb
    rw [e, hr] at h1
    injection h1 with h1
    injection h1 with _ h2
    exact absurd h2 (by decide)
  refine ⟨?_, ?_, ?_, ?_, ?_, h.k2, h.g2, h.gb2⟩
  · rw [setRow_other W r g _ hne]; exact h.b1
  · rw [setRow_other W r gb _ hgb]; exact h.bb
  · exact h.tt.kept (grown_row W r c) (own_ne h.tt hr (by decide))
  · exact h.la.below (B := 2) ⟨rfl, rfl, rfl, by simp [World.setRow], fun q hq => setRow_other W r q c (by omega)⟩ (by omega)
  · simpa [World.setRow] using h.kz
theorem MR.mv {K g : Nat} {m : Ma} {gb bc : Nat} {gs : Nat} {sy : List Sy} {ta : Option Addr} {tc : Nat} {W : World} (h : MR K g m gb bc (.slice (some ⟨gs, 0, none⟩) sy.length sy.length) ta tc W) (hs : W.heap[gs]? = some (.cells (scells sy).toArray 61 (0, 0))) {B : Nat} (h1 : B ≤ gb) (h2 : B ≤ gs) (h3 : B ≤ K) : MVb B W (.agg (mC m (some ⟨gb, 0, none⟩) bc (.slice (some ⟨gs, 0, none⟩) sy.length sy.length) ta tc)) m sy := by
  refine ⟨_, _, _, _, _, _, rfl, h.brd, h.trd, src_of_block hs (scells_len sy), fun a e _ => ?_, fun a e h0 => ?_, fun a e _ => ?_⟩
  · cases e; exact h1
  · subst e
    exact Nat.le_trans h3 (h.tt.lt a.block rfl).1
  · cases e; exact h2
/-- The machine that Own has made, in a box. -/
theorem own_mr {w X : World} {m : Ma} {q gb gs gt : Nat} {sy : List Sy} (hL : Laid X) (hz : 1 < w.heap.size) (hgb : w.heap.size ≤ gb) (hgt : gb < gt) (hq : 1 < q) (h1 : X.heap[q]? = some (.cells (mC m (some ⟨gb, 0, none⟩) m.by'.length (.slice (some ⟨gs, 0, none⟩) sy.length sy.length) (some ⟨gt, 0, none⟩) m.told.length) 29 (0, 0))) (h2 : X.heap[gb]? = some (.cells (mcells m.by').toArray 5 (0, 0))) (h3 : X.heap[gt]? = some (.cells (icells m.told).toArray 3 (0, 0))) (ht : m.told.length ≤ maxLen) :
    MR gt q m gb m.by'.length (.slice (some ⟨gs, 0, none⟩) sy.length sy.length) (some ⟨gt, 0, none⟩) m.told.length X := by
  refine ⟨h1, h2, ⟨icells_len _, Or.inr ⟨gt, m.told.length, (icells m.told).toArray, rfl, Nat.le_refl _, h3, Nat.le_refl _, ht, by simp [icells], ?_⟩⟩, hL, Nat.le_of_lt (Array.getElem?_eq_some_iff.1 h3).1, by omega, hq, by omega⟩
  rw [Nat.mul_one]
  have : (icells m.told).length = m.told.length := by simp [icells]
  rw [← this]
  simp

set_option maxHeartbeats 8000000 in
set_option maxRecDepth 100000 in
theorem sstep_any (m : Ma) (k : Nat) (sy : List Sy) (v : Value) (w : World) (hv : MV w v m sy) (hL : Laid w) (hR : Runs m k) (hk : k ≤ 100000) (hsl : sy.length * 24 ≤ 140737488355328) :
    Calls Tryd.prog 7 #[v] w fun e w' => ∃ v', e = .returned (.tuple #[v', .bool (stepD m), .int .i64 (stepE m)]) ∧ Below w.heap.size w w' ∧ ((stepE m ≠ 0 ∧ v' = .agg zC) ∨ (stepE m = 0 ∧ MVb w.heap.size w' v' (stepM m) sy)) := by
  obtain ⟨ba, bc, s0, s2, ta, tc, rfl, hB, hT, hS⟩ := hv
  have hbl := hR.bl
  have htl := hR.tl
  obtain ⟨V, hV⟩ : ∃ V, V = (w.alloc (.cells (mC m ba bc (.slice s0 sy.length s2) ta tc) 29)).alloc (.cells zC 29) := ⟨_, rfl⟩
  have hV0 : Below w.heap.size w V := by rw [hV]; exact (oalloc _ _).trans ((oalloc _ _).mono (by simp))
  have hV1 : V.heap[w.heap.size]? = some (.cells (mC m ba bc (.slice s0 sy.length s2) ta tc) 29 (0, 0)) := by rw [hV, (oalloc _ _).block _ (by simp)]; exact blk_new _ _ _
  have hV2 : V.heap[w.heap.size + 1]? = some (.cells zC 29 (0, 0)) := by
    rw [hV]
    have := blk_new (w.alloc (.cells (mC m ba bc (.slice s0 sy.length s2) ta tc) 29)) zC 29
    simpa using this
  have hlt2 := (Array.getElem?_eq_some_iff.1 hV2).1
  have HO : Hid (Calls Tryd.prog 10 #[.agg (mC m ba bc (.slice s0 sy.length s2) ta tc)] V fun e w' => ∃ gb gs gt, e = .returned (.agg (mC m (some ⟨gb, 0, none⟩) m.by'.length (.slice (some ⟨gs, 0, none⟩) sy.length sy.length) (some ⟨gt, 0, none⟩) m.told.length)) ∧ (Below w.heap.size w (w'.alloc (.cells zC 29)) ∧ w.heap.size ≤ gb ∧ w.heap.size ≤ gs) ∧ w.heap.size + 1 < gt ∧ w'.heap[w.heap.size + 1]? = some (.cells zC 29 (0, 0)) ∧ w.heap.size + 1 < w'.heap.size ∧ (∀ X, X = (w'.alloc (.cells zC 29)).setRow w'.heap.size (mC m (some ⟨gb, 0, none⟩) m.by'.length (.slice (some ⟨gs, 0, none⟩) sy.length sy.length) (some ⟨gt, 0, none⟩) m.told.length) → Below w.heap.size w X ∧ X.heap[w.heap.size + 1]? = some (.cells zC 29 (0, 0)) ∧ X.heap[w'.heap.size]? = some (.cells (mC m (some ⟨gb, 0, none⟩) m.by'.length (.slice (some ⟨gs, 0, none⟩) sy.length sy.length) (some ⟨gt, 0, none⟩) m.told.length) 29 (0, 0)) ∧ Calls Tryd.prog 21 #[.pointer (some ⟨w'.heap.size, 0, none⟩)] X fun e W' => e = .returned (.tuple #[.bool (stepD m), .int .i64 (stepE m)]) ∧ Below w.heap.size w W' ∧ W'.heap[w.heap.size + 1]? = some (.cells zC 29 (0, 0)) ∧ (stepE m = 0 → ∃ ta' tc', MR gt w'.heap.size (stepM m) gb m.by'.length (.slice (some ⟨gs, 0, none⟩) sy.length sy.length) ta' tc' W' ∧ W'.heap[gs]? = some (.cells (scells sy).toArray 61 (0, 0))))) := by
    refine (pown_any m ba bc sy s0 s2 ta tc V (hB.next hV0) (hS.below hV0 (Nat.le_refl _)) (hT.next hV0) (by omega) hsl (by omega)).mono ?_
    rintro e w' ⟨gb, gs, gt, rfl, hb, h1, h2, h3, h4, h5, h6, h7⟩
    have hbw := hV0.trans (hb.mono hV0.size)
    have hz := hV0.size
    have hz' := hb.size
    have hgtl := (Array.getElem?_eq_some_iff.1 h7).1
    have r1 := (hb.block _ hlt2).trans hV2
    refine ⟨gb, gs, gt, rfl, ⟨hbw.trans ((oalloc _ _).mono hbw.size), by omega, by omega⟩, by omega, r1, by omega, ?_⟩
    intro X hX
    have hA := oalloc w' (.cells zC 29)
    have hnew := blk_new w' zC 29
    have hXq : X.heap[w'.heap.size]? = some (.cells (mC m (some ⟨gb, 0, none⟩) m.by'.length (.slice (some ⟨gs, 0, none⟩) sy.length sy.length) (some ⟨gt, 0, none⟩) m.told.length) 29 (0, 0)) := by rw [hX]; exact setRow_heap _ _ _ _ _ _ hnew
    have hold : ∀ {b : Nat} {o : Obj}, w'.heap[b]? = some o → X.heap[b]? = some o := fun {b o} hbo => by
      have hlt := (Array.getElem?_eq_some_iff.1 hbo).1
      rw [hX, setRow_other _ _ _ _ (by omega), hA.block _ hlt]
      exact hbo
    have hbX : Below w.heap.size w X := by
      rw [hX]
      exact below_setRow (hbw.trans (hA.mono hbw.size)) (by omega) _
    refine ⟨hbX, hold r1, hXq, ?_⟩
    have hMR := own_mr (w := V) (X := X) (hL.below hbX hL.sz) (by have := hL.sz; omega) h1 h3 (by have := hL.sz; omega) hXq (hold h5) (hold h7) (by unfold maxLen; omega)
    refine (pstep_any gt w'.heap.size m gb m.by'.length (some ⟨gs, 0, none⟩) sy.length sy.length (some ⟨gt, 0, none⟩) m.told.length k X hMR hR hk (Nat.le_refl _)).mono ?_
    rintro e W' ⟨rfl, hkp, hm⟩
    have hgsq : gs ≠ w'.heap.size := by omega
    have hgsb : gs ≠ gb := by
      intro e
      rw [e, h5] at h6
      injection h6 with h6
      injection h6 with _ h8
      exact absurd h8 (by decide)
    refine ⟨?_, hbX.trans (hkp.below (by omega) (by omega) (by omega)), ?_, fun h0 => ?_⟩
    · by_cases h0 : stepE m = 0
      · rw [if_pos h0]
      · rw [if_neg h0, stepD_err h0]
    · rw [hkp.block _ (by omega) (by omega) (by omega)]
      exact hold r1
    · obtain ⟨ta', tc', h9⟩ := hm h0
      exact ⟨ta', tc', h9, by rw [hkp.block _ h4 hgsq hgsb]; exact hold h6⟩
  have HV := Lib.hid hV.symm
  have HV1 := Lib.hid hV1
  have hw1 := hL.sz
  clear hV hV0 hV1 hV2 hB hT hS hL hR hlt2
  obtain ⟨DD, hDD⟩ : ∃ x, x = stepD m := ⟨_, rfl⟩
  obtain ⟨EE, hEE⟩ : ∃ x, x = stepE m := ⟨_, rfl⟩
  obtain ⟨MM, hMM⟩ : ∃ x, x = stepM m := ⟨_, rfl⟩
  rw [← hDD, ← hEE, ← hMM] at HO
  rw [← hDD, ← hEE, ← hMM]
  have hDF : EE ≠ 0 → DD = false := fun h => by rw [hDD]; exact stepD_err (by rw [← hEE]; exact h)
  clear hDD hEE hMM
  rw [zLit] at HO HV
  by_cases h0 : EE = 0
  · subst h0
    go_enter Tryd.func7, Tryd.ntmps7
    go_upto_region 1 with fail
    rw [HV.out]
    clear HV
    go_wp2_with (first | (refine wpList_load_row rfl 29 _ rfl w.heap.size rfl 29 (mC m ba bc (.slice s0 sy.length s2) ta tc) (0, 0) _ HV1.out Tryd.underlying29 rfl (mSize _ _ _ _ _ _) ?_) | (go_at_call 10; refine HO.out.mono ?_; rintro e W1 ⟨gb, gs, gt, rfl, hb1, hgt, hr1, hlt1, hx1⟩; have hbb1 := hb1.2.1; have hbb2 := hb1.2.2; obtain ⟨hbX, hXr, hXq, hst⟩ := hx1 _ rfl; have HN := Lib.hid (blk_new W1 #[.int .i64 0, .int .i64 0, .int .i64 0, .int .i64 0, .int .i64 0, .int .i64 0, .int .i64 0, .int .i64 0, .int .i64 0, .int .i64 0, .int .i64 0, .int .i64 0, .int .i64 0, .int .i64 0, .int .i64 0, .int .i64 0, .bool false, .int .i64 0, .int .i64 0, .int .i64 0, .slice none 0 0, .slice none 0 0, .slice none 0 0, .int .i64 0] 29); have HST := Lib.hid hst; clear hb1 hr1 hx1 hst hbX hXr hXq) | (refine wpList_store_row rfl 29 _ _ rfl W1.heap.size (mC m (some ⟨gb, 0, none⟩) m.by'.length (.slice (some ⟨gs, 0, none⟩) sy.length sy.length) (some ⟨gt, 0, none⟩) m.told.length) rfl rfl 29 #[.int .i64 0, .int .i64 0, .int .i64 0, .int .i64 0, .int .i64 0, .int .i64 0, .int .i64 0, .int .i64 0, .int .i64 0, .int .i64 0, .int .i64 0, .int .i64 0, .int .i64 0, .int .i64 0, .int .i64 0, .int .i64 0, .bool false, .int .i64 0, .int .i64 0, .int .i64 0, .slice none 0 0, .slice none 0 0, .slice none 0 0, .int .i64 0] HN.out (mSize _ _ _ _ _ _) rfl (mAll _ _ _ _ _ _ _ _) ?_) | (go_at_call 21; refine HST.out.mono ?_; rintro e W2 ⟨rfl, hb2, hr2, hm2⟩; obtain ⟨ta2, tc2, hm3, hs3⟩ := hm2 (by first | rfl | trivial); have HB2 := Lib.hid hb2; have HR2 := Lib.hid hr2; have HM3 := Lib.hid hm3; have HS3 := Lib.hid hs3; have hq1 : w.heap.size + 1 < W1.heap.size := hlt1; clear hb2 hr2 hm2 hm3 hs3) | (refine wpList_load_row rfl 29 _ rfl W1.heap.size rfl 29 (mC MM (some ⟨gb, 0, none⟩) m.by'.length (.slice (some ⟨gs, 0, none⟩) sy.length sy.length) ta2 tc2) (0, 0) _ HM3.out.b1 Tryd.underlying29 rfl (mSize _ _ _ _ _ _) ?_) | (refine wpList_store_row rfl 29 _ _ rfl (w.heap.size + 1) (mC MM (some ⟨gb, 0, none⟩) m.by'.length (.slice (some ⟨gs, 0, none⟩) sy.length sy.length) ta2 tc2) rfl rfl 29 #[.int .i64 0, .int .i64 0, .int .i64 0, .int .i64 0, .int .i64 0, .int .i64 0, .int .i64 0, .int .i64 0, .int .i64 0, .int .i64 0, .int .i64 0, .int .i64 0, .int .i64 0, .int .i64 0, .int .i64 0, .int .i64 0, .bool false, .int .i64 0, .int .i64 0, .int .i64 0, .slice none 0 0, .slice none 0 0, .slice none 0 0, .int .i64 0] HR2.out (mSize _ _ _ _ _ _) rfl (mAll _ _ _ _ _ _ _ _) ?_) | fail)
    have hrow := HM3.out.row29 HR2.out (by omega) (by omega) (mC MM (some ⟨gb, 0, none⟩) m.by'.length (.slice (some ⟨gs, 0, none⟩) sy.length sy.length) ta2 tc2)
    have hsy := setRow_other W2 (w.heap.size + 1) gs (mC MM (some ⟨gb, 0, none⟩) m.by'.length (.slice (some ⟨gs, 0, none⟩) sy.length sy.length) ta2 tc2) (by
      intro e
      have h1 := HS3.out
      rw [e, HR2.out] at h1
      injection h1 with h1
      injection h1 with _ h2
      exact absurd h2 (by decide))
    exact bodyPost_ret (v := .tuple #[.agg (mC MM (some ⟨gb, 0, none⟩) m.by'.length (.slice (some ⟨gs, 0, none⟩) sy.length sy.length) ta2 tc2), .bool DD, .int .i64 0]) (res_s Tryd.results7 rfl rfl rfl (setRow_heap _ _ _ _ _ _ HR2.out) (mSize _ _ _ _ _ _)) rfl ⟨_, rfl, below_setRow HB2.out (by omega) _, Or.inr ⟨by first | rfl | trivial, hrow.mv (hsy.trans HS3.out) hbb1 hbb2 (by omega)⟩⟩
  · have h0b : (EE != 0) = true := by simpa using h0
    have HN0 := Lib.hid h0
    have HDF : Hid (DD = false) := hDF h0
    clear h0
    go_enter Tryd.func7, Tryd.ntmps7
    go_upto_region 1 with fail
    rw [HV.out]
    clear HV
    go_wp2_with (first | (refine wpList_load_row rfl 29 _ rfl w.heap.size rfl 29 (mC m ba bc (.slice s0 sy.length s2) ta tc) (0, 0) _ HV1.out Tryd.underlying29 rfl (mSize _ _ _ _ _ _) ?_) | (go_at_call 10; refine HO.out.mono ?_; rintro e W1 ⟨gb, gs, gt, rfl, hb1, hgt, hr1, hlt1, hx1⟩; have hbb1 := hb1.2.1; have hbb2 := hb1.2.2; obtain ⟨hbX, hXr, hXq, hst⟩ := hx1 _ rfl; have HN := Lib.hid (blk_new W1 #[.int .i64 0, .int .i64 0, .int .i64 0, .int .i64 0, .int .i64 0, .int .i64 0, .int .i64 0, .int .i64 0, .int .i64 0, .int .i64 0, .int .i64 0, .int .i64 0, .int .i64 0, .int .i64 0, .int .i64 0, .int .i64 0, .bool false, .int .i64 0, .int .i64 0, .int .i64 0, .slice none 0 0, .slice none 0 0, .slice none 0 0, .int .i64 0] 29); have HST := Lib.hid hst; clear hb1 hr1 hx1 hst hbX hXr hXq) | (refine wpList_store_row rfl 29 _ _ rfl W1.heap.size (mC m (some ⟨gb, 0, none⟩) m.by'.length (.slice (some ⟨gs, 0, none⟩) sy.length sy.length) (some ⟨gt, 0, none⟩) m.told.length) rfl rfl 29 #[.int .i64 0, .int .i64 0, .int .i64 0, .int .i64 0, .int .i64 0, .int .i64 0, .int .i64 0, .int .i64 0, .int .i64 0, .int .i64 0, .int .i64 0, .int .i64 0, .int .i64 0, .int .i64 0, .int .i64 0, .int .i64 0, .bool false, .int .i64 0, .int .i64 0, .int .i64 0, .slice none 0 0, .slice none 0 0, .slice none 0 0, .int .i64 0] HN.out (mSize _ _ _ _ _ _) rfl (mAll _ _ _ _ _ _ _ _) ?_) | (go_at_call 21; refine HST.out.mono ?_; rintro e W2 ⟨rfl, hb2, hr2, hm2⟩; have HB2 := Lib.hid hb2; have HR2 := Lib.hid hr2; clear hb2 hr2 hm2) | (refine wpList_store_row rfl 29 _ _ rfl (w.heap.size + 1) #[.int .i64 0, .int .i64 0, .int .i64 0, .int .i64 0, .int .i64 0, .int .i64 0, .int .i64 0, .int .i64 0, .int .i64 0, .int .i64 0, .int .i64 0, .int .i64 0, .int .i64 0, .int .i64 0, .int .i64 0, .int .i64 0, .bool false, .int .i64 0, .int .i64 0, .int .i64 0, .slice none 0 0, .slice none 0 0, .slice none 0 0, .int .i64 0] rfl rfl 29 #[.int .i64 0, .int .i64 0, .int .i64 0, .int .i64 0, .int .i64 0, .int .i64 0, .int .i64 0, .int .i64 0, .int .i64 0, .int .i64 0, .int .i64 0, .int .i64 0, .int .i64 0, .int .i64 0, .int .i64 0, .int .i64 0, .bool false, .int .i64 0, .int .i64 0, .int .i64 0, .slice none 0 0, .slice none 0 0, .slice none 0 0, .int .i64 0] HR2.out zSize rfl zAll ?_) | fail)
    rw [HDF.out]
    exact bodyPost_ret (v := .tuple #[.agg zC, .bool false, .int .i64 EE]) (res_s Tryd.results7 rfl rfl rfl (setRow_heap _ _ _ _ _ _ HR2.out) zSize) rfl ⟨_, rfl, below_setRow HB2.out (by omega) _, Or.inl ⟨HN0.out, rfl⟩⟩

end Go.Proofs.YtabepbaldadmgaaDoor
