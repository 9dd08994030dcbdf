/- The contract of the law. -/
import Derived.Test.YtabepbaldadmgaaDoorSqB
namespace Go.Proofs.YtabepbaldadmgaaDoor
open Go.RowKit Isa

theorem img19 {W : World} {g : Nat} {m : Ma} {ba : Option Addr} {bc : Nat} {sv : Value} {ta : Option Addr} {tc : Nat} (h : W.heap[g]? = some (.cells (mC m ba bc sv ta tc) 29 (0, 0))) : W.cell? ⟨g, 19, none⟩ = some (.int .i64 m.base) ∧ W.cell? ⟨g, 20, none⟩ = some (.slice ba m.by'.length bc) ∧ W.cell? ⟨g, 21, none⟩ = some sv := ⟨cell_of_block (i := 19) h rfl, cell_of_block (i := 20) h rfl, cell_of_block (i := 21) h rfl⟩
/-- The argument's box, and the boxes of the two machines. -/
structure SQ (w : World) (c0 : Array Value) (q5 q8 : Nat) (cx cy : Array Value) (M : Ma) (S : List Sy) (U : World) : Prop where
  ab : AB w c0 U
  b5 : Bx U q5 cx
  b8 : Bx U q8 cy
  m5 : MV U (.agg cx) M S
  m8 : MV U (.agg cy) M S
  l5 : w.heap.size < q5
  l8 : q5 < q8
theorem SQ.next {w : World} {c0 : Array Value} {q5 q8 : Nat} {cx cy : Array Value} {M : Ma} {S : List Sy} {U U' : World} (h : SQ w c0 q5 q8 cx cy M S U) (hb : Below U.heap.size U U') : SQ w c0 q5 q8 cx cy M S U' :=
  ⟨h.ab.next hb, h.b5.next hb, h.b8.next hb, h.m5.next hb, h.m8.next hb, h.l5, h.l8⟩
theorem bnx {w w1 w2 : World} (h : Below w.heap.size w w1) (k : Below w1.heap.size w1 w2) : Below w.heap.size w w2 := h.trans (k.mono h.size)

set_option maxHeartbeats 16000000 in
set_option maxRecDepth 100000 in
theorem stells_any (m : Ma) (sy : List Sy) (v : Value) (most : Int) (w : World) (hv : MV w v m sy) (hL : Laid w) (hM : ArgM m sy) :
    Calls Tryd.prog 3 #[v, .int .i64 most] w fun e w' => e = .returned (.bool true) ∧ Below w.heap.size w w' := by
  have hv0 := hv
  obtain ⟨ba, bc, s0, s2, ta, tc, rfl, hB, hT, hS⟩ := hv
  obtain ⟨V, hV⟩ : ∃ V, V = w.alloc (.cells (mC m ba bc (.slice s0 sy.length s2) ta tc) 29) := ⟨_, rfl⟩
  have hA := AB.start w (mC m ba bc (.slice s0 sy.length s2) ta tc)
  rw [← hV] at hA
  have HA := Lib.hid hA
  have HRI : Hid (∀ X, Calls Tryd.prog 6 #[.agg (mC m ba bc (.slice s0 sy.length s2) ta tc)] X fun e w' => ∃ b, e = .returned (.bool b) ∧ Below X.heap.size X w' ∧ (b = true → Runs m 0)) := fun X => (right_any m ba bc s0 sy.length s2 ta tc X).mono fun _ _ ⟨b, h1, h2, h3⟩ => ⟨b, h1, h2, fun hb => hM.runs (h3 hb)⟩
  have hsl : sy.length * 24 ≤ 140737488355328 := by have := hM.sl; omega
  have hbl : m.by'.length * 1 ≤ 140737488355328 := by have := hM.bl; omega
  have htl : m.told.length * 8 ≤ 140737488355328 := by have := hM.tl; omega
  have HARG : Hid (∀ X, Below w.heap.size w X → MV X (.agg (mC m ba bc (.slice s0 sy.length s2) ta tc)) m sy) := fun X hX => hv0.next hX
  have HS7 : Hid (∀ X, Below w.heap.size w X → Runs m 0 → Calls Tryd.prog 7 #[.agg (mC m ba bc (.slice s0 sy.length s2) ta tc)] X fun e w' => ∃ v', e = .returned (.tuple #[v', .bool (stepD m), .int .i64 (stepE m)]) ∧ Below X.heap.size X w' ∧ MVp (fun _ => True) w' v' (stM m) (stS m sy)) := fun X hX hR => by
    refine (sstep_any m 0 sy _ X (hv0.next hX) (hL.below hX hL.sz) hR (by omega) hsl).mono ?_
    rintro e w' ⟨v', rfl, hb, h⟩
    refine ⟨v', rfl, hb, ?_⟩
    unfold stM stS
    rcases h with ⟨h, rfl⟩ | ⟨h, h1⟩
    · rw [if_neg h, if_neg h]; exact MVp.zero _ _
    · rw [if_pos h, if_pos h]; exact h1.p.mono fun _ _ => trivial
  have HS8 : Hid (∀ X, Below w.heap.size w X → Runs m 0 → Calls Tryd.prog 8 #[.agg (mC m ba bc (.slice s0 sy.length s2) ta tc)] X fun e w' => ∃ v', e = .returned (.tuple #[v', .bool (stepD m), .int .i64 (stepE m)]) ∧ Below X.heap.size X w' ∧ MVp (fun _ => True) w' v' (stM m) (stS m sy)) := fun X hX hR => by
    refine (rstep_any m 0 sy _ X (fun _ => True) ((hv0.next hX).p.mono fun _ _ => trivial) hR (by omega) (fun _ _ => trivial)).mono ?_
    rintro e w' ⟨v', rfl, hb, h⟩
    refine ⟨v', rfl, hb, ?_⟩
    unfold stM stS
    rcases h with ⟨h, rfl⟩ | ⟨h, h1⟩
    · rw [if_neg h, if_neg h]; exact MVp.zero _ _
    · rw [if_pos h, if_pos h]; exact h1
  have HFW : Hid (Runs m 0 → Few (stM m) (stS m sy)) := fun hR => by
    unfold stM stS
    by_cases h : stepE m = 0
    · rw [if_pos h, if_pos h]; exact Few.of (runs_step hR (stepE_fetch h)).1 (by omega) hM.sl
    · rw [if_neg h, if_neg h]; exact Few.zero
  have HSMG : Hid (∀ (M : Ma) (S : List Sy), Few M S → ∀ X c c', MV X (.agg c) M S → MV X (.agg c') M S → Calls Tryd.prog 9 #[.agg c, .agg c'] X fun e w' => e = .returned (.bool true) ∧ Below X.heap.size X w') := fun M S hF X c c' h h' => same_any M S _ _ X h h' hF.1 hF.2.1 hF.2.2
  have HSMm := Lib.hid (HSMG.out m sy ⟨by omega, by omega, by omega⟩)
  have HSMn := Lib.hid (HSMG.out (newM m.base m.by') sy ⟨by show m.by'.length ≤ _; omega, by omega, by show (0 : Nat) ≤ _; omega⟩)
  have HOWN : Hid (∀ X, Below w.heap.size w X → Calls Tryd.prog 10 #[.agg (mC m ba bc (.slice s0 sy.length s2) ta tc)] X fun e w' => ∃ c, e = .returned (.agg c) ∧ Below X.heap.size X w' ∧ MV w' (.agg c) m sy) := fun X hX => by
    refine (pown_any m ba bc sy s0 s2 ta tc X (hB.next hX) (hS.below hX (Nat.le_refl _)) (hT.next hX) hbl hsl htl).mono ?_
    rintro e w' ⟨gb, gs, gt, rfl, hb, _, _, _, _, h1, h2, h3⟩
    exact ⟨_, rfl, hb, _, _, _, _, _, _, rfl, brd_row h1, trd_row h3, src_of_block h2 (scells_len sy)⟩
  have HNEW : Hid (∀ X, Below w.heap.size w X → Calls Tryd.prog 11 #[.agg #[.int .i64 m.base, .slice ba m.by'.length bc, .slice s0 sy.length s2]] X fun e w' => ∃ c, e = .returned (.agg c) ∧ Below X.heap.size X w' ∧ MV w' (.agg c) (newM m.base m.by') sy) := fun X hX => by
    refine (pnew_any m.base m.by' ba bc sy s0 s2 X (hB.next hX) (hS.below hX (Nat.le_refl _)) hbl hsl).mono ?_
    rintro e w' ⟨gb, gs, rfl, hb, _, _, h1, h2⟩
    exact ⟨_, rfl, hb, _, _, _, _, _, _, rfl, brd_row h1, fun h0 => absurd h0 (Nat.lt_irrefl 0), src_of_block h2 (scells_len sy)⟩
  have HRNEW : Hid (∀ X, Below w.heap.size w X → Calls Tryd.prog 12 #[.agg #[.int .i64 m.base, .slice ba m.by'.length bc, .slice s0 sy.length s2]] X fun e w' => ∃ c, e = .returned (.agg c) ∧ Below X.heap.size X w' ∧ MV w' (.agg c) (newM m.base m.by') sy) := fun X hX => by
    refine (rnew_any m.base _ m.by' ba bc s0 sy.length s2 X rfl).mono ?_
    rintro e w' ⟨rfl, hb⟩
    exact ⟨_, rfl, hb, ba, bc, s0, s2, none, 0, rfl, (hB.next hX).next hb, fun h0 => absurd h0 (Nat.lt_irrefl 0), (hS.below hX (Nat.le_refl _)).below hb (Nat.le_refl _)⟩
  have HIMG : Hid (∀ X, Below w.heap.size w X → Calls Tryd.prog 14 #[.agg #[.int .i64 m.base, .slice ba m.by'.length bc, .slice s0 sy.length s2]] X fun e w' => ∃ cv sv, e = .returned (.agg #[.int .i64 m.base, cv, sv]) ∧ Below X.heap.size X w' ∧ OBytes w' cv m.by' ∧ SySrc w' sv sy) := fun X hX => by
    refine (pimage_any m.base m.by' ba bc sy s0 s2 X (hB.next hX) (hS.below hX (Nat.le_refl _)) hbl hsl).mono ?_
    rintro e w' ⟨gb, gs, rfl, hb, _, _, h1, h2⟩
    exact ⟨_, _, rfl, hb, (brd_row h1).ob (by unfold maxLen; omega), (src_of_block h2 (scells_len sy)).sy (by unfold maxLen; omega)⟩
  have HSIM : Hid (∀ X cv sv, Below w.heap.size w X → OBytes X cv m.by' → SySrc X sv sy → Calls Tryd.prog 13 #[.agg #[.int .i64 m.base, cv, sv], .agg #[.int .i64 m.base, .slice ba m.by'.length bc, .slice s0 sy.length s2]] X fun e w' => e = .returned (.bool true) ∧ Below X.heap.size X w') := fun X cv sv hX h1 h2 => simg_any m.base m.by' sy cv sv _ _ X h1 h2 ((hB.next hX).ob (by unfold maxLen; omega)) ((hS.below hX (Nat.le_refl _)).sy (by unfold maxLen; omega))
  have HRUN : Hid (Runs m 0 → ∃ (E : Int) (RM : Ma) (RS : List Sy), Few RM RS ∧ (∀ X, Below w.heap.size w X → Calls Tryd.prog 15 #[.agg (mC m ba bc (.slice s0 sy.length s2) ta tc), .int .i64 most] X fun e w' => ∃ v', e = .returned (.tuple #[v', .int .i64 E]) ∧ Below X.heap.size X w' ∧ MVp (fun b => X.heap.size ≤ b) w' v' RM RS) ∧ (∀ X, Below w.heap.size w X → Calls Tryd.prog 16 #[.agg (mC m ba bc (.slice s0 sy.length s2) ta tc), .int .i64 most] X fun e w' => ∃ v', e = .returned (.tuple #[v', .int .i64 E]) ∧ Below X.heap.size X w' ∧ MVp (fun b => b < w.heap.size ∨ X.heap.size ≤ b) w' v' RM RS)) := fun hR => by
    by_cases hr : 0 ≤ most ∧ most ≤ 2000
    · obtain ⟨n, rfl⟩ := Int.eq_ofNat_of_zero_le hr.1
      have hn : n ≤ 2000 := by omega
      refine ⟨runE n m, rnM n m, rnS n m sy, ?_, fun X hX => ?_, fun X hX => ?_⟩
      · unfold rnM rnS
        by_cases h : runE n m = 0
        · rw [if_pos h, if_pos h]; exact Few.of (run_runs n m 0 hR h) (by omega) hM.sl
        · rw [if_neg h, if_neg h]; exact Few.zero
      · refine (run_in m sy _ n X (hv0.next hX) (hL.below hX hL.sz) hR hn hsl).mono ?_
        rintro e w' ⟨v', rfl, hb, h⟩
        refine ⟨v', rfl, hb, ?_⟩
        unfold rnM rnS
        rcases h with ⟨h, rfl⟩ | ⟨h, h1⟩
        · rw [if_neg h, if_neg h]; exact MVp.zero _ _
        · rw [if_pos h, if_pos h]; exact h1.p
      · refine (rrun_in m sy _ n X (fun b => b < w.heap.size) (hv0.p.next hX) (fun b h => Nat.lt_of_lt_of_le h hX.size) hR hn).mono ?_
        rintro e w' ⟨v', rfl, hb, h⟩
        refine ⟨v', rfl, hb, ?_⟩
        unfold rnM rnS
        rcases h with ⟨h, rfl⟩ | ⟨h, h1⟩
        · rw [if_neg h, if_neg h]; exact MVp.zero _ _
        · rw [if_pos h, if_pos h]
          refine h1.mono fun b hb => ?_
          rcases hb with hb | hb
          · exact .inl hb
          · exact .inr (by omega)
    · have hm : most < 0 ∨ 2000 < most := by omega
      refine ⟨3, zeroM, [], Few.zero, fun X hX => ?_, fun X hX => ?_⟩
      · refine (run_out m sy _ most X (hv0.next hX) hm).mono ?_
        rintro e w' ⟨rfl, hb⟩
        exact ⟨_, rfl, hb, MVp.zero _ _⟩
      · refine (rrun_out m sy _ most X (hv0.next hX) hm).mono ?_
        rintro e w' ⟨rfl, hb⟩
        exact ⟨_, rfl, hb, MVp.zero _ _⟩
  have HV := Lib.hid hV.symm
  clear hV hA hB hT hS hL hv0 hM hsl hbl htl
  generalize stM m = SM at *
  generalize stS m sy = SS at *
  generalize stepD m = dd at *
  generalize stepE m = ee at *
  go_enter Tryd.func3, Tryd.ntmps3
  go_upto_region 1 with fail
  rw [HV.out]
  clear HV
  go_upto_region 3 with (first | (refine wpList_load_row rfl 29 _ rfl w.heap.size rfl 29 (mC m ba bc (.slice s0 sy.length s2) ta tc) (0, 0) _ HA.out.box Tryd.underlying29 rfl (mSize _ _ _ _ _ _) ?_) | (go_at_call 6; refine (HRI.out _).mono ?_; rintro e W2 ⟨b, rfl, hb2, hR2⟩; have HA2 := Lib.hid (HA.out.next hb2); clear hb2; cases b) | fail)
  · clear hR2
    go_wp2
    go_ret
    exact ⟨rfl, HA2.out.bel⟩
  · have HR := Lib.hid (hR2 (by first | rfl | trivial))
    have HSM := Lib.hid (HSMG.out SM SS (HFW.out HR.out))
    clear hR2 HRI HA HFW
    obtain ⟨E, RM, RS, hFew, h15, h16⟩ := HRUN.out HR.out
    have H15 := Lib.hid h15
    have H16 := Lib.hid h16
    have HSMR := Lib.hid (HSMG.out RM RS hFew)
    clear h15 h16 hFew HRUN HSMG
    go_upto_region 5 with (first | (refine wpList_load_row rfl 29 _ rfl w.heap.size rfl 29 (mC m ba bc (.slice s0 sy.length s2) ta tc) (0, 0) _ HA2.out.box Tryd.underlying29 rfl (mSize _ _ _ _ _ _) ?_) | (go_at_call 7; refine (HS7.out _ HA2.out.bel HR.out).mono ?_; rintro e W3 ⟨v', rfl, hb3, h3⟩; obtain ⟨cx, rfl, sx, ax, zx⟩ := h3.form; have HA3 := Lib.hid ((HA2.out.next hb3).next (newbox W3 #[.int .i64 0, .int .i64 0, .int .i64 0, .int .i64 0, .int .i64 0, .int .i64 0, .int .i64 0, .int .i64 0, .int .i64 0, .int .i64 0, .int .i64 0, .int .i64 0, .int .i64 0, .int .i64 0, .int .i64 0, .int .i64 0, .bool false, .int .i64 0, .int .i64 0, .int .i64 0, .slice none 0 0, .slice none 0 0, .slice none 0 0, .int .i64 0] cx).1); have HB3 : Hid (Bx ((W3.alloc (.cells #[.int .i64 0, .int .i64 0, .int .i64 0, .int .i64 0, .int .i64 0, .int .i64 0, .int .i64 0, .int .i64 0, .int .i64 0, .int .i64 0, .int .i64 0, .int .i64 0, .int .i64 0, .int .i64 0, .int .i64 0, .int .i64 0, .bool false, .int .i64 0, .int .i64 0, .int .i64 0, .slice none 0 0, .slice none 0 0, .slice none 0 0, .int .i64 0] 29)).setRow W3.heap.size cx) W3.heap.size cx) := (newbox W3 #[.int .i64 0, .int .i64 0, .int .i64 0, .int .i64 0, .int .i64 0, .int .i64 0, .int .i64 0, .int .i64 0, .int .i64 0, .int .i64 0, .int .i64 0, .int .i64 0, .int .i64 0, .int .i64 0, .int .i64 0, .int .i64 0, .bool false, .int .i64 0, .int .i64 0, .int .i64 0, .slice none 0 0, .slice none 0 0, .slice none 0 0, .int .i64 0] cx).2; have HM3 := Lib.hid (h3.mv.next (newbox W3 #[.int .i64 0, .int .i64 0, .int .i64 0, .int .i64 0, .int .i64 0, .int .i64 0, .int .i64 0, .int .i64 0, .int .i64 0, .int .i64 0, .int .i64 0, .int .i64 0, .int .i64 0, .int .i64 0, .int .i64 0, .int .i64 0, .bool false, .int .i64 0, .int .i64 0, .int .i64 0, .slice none 0 0, .slice none 0 0, .slice none 0 0, .int .i64 0] cx).1); have HNB3 := Lib.hid (blk_new W3 #[.int .i64 0, .int .i64 0, .int .i64 0, .int .i64 0, .int .i64 0, .int .i64 0, .int .i64 0, .int .i64 0, .int .i64 0, .int .i64 0, .int .i64 0, .int .i64 0, .int .i64 0, .int .i64 0, .int .i64 0, .int .i64 0, .bool false, .int .i64 0, .int .i64 0, .int .i64 0, .slice none 0 0, .slice none 0 0, .slice none 0 0, .int .i64 0] 29); have HZ5 := Lib.hid sx; have HY5 := Lib.hid ax; have HW5 := Lib.hid zx; have HL3 : Hid (w.heap.size < W3.heap.size) := (HA2.out.next hb3).lt; clear hb3 h3 sx ax zx) | (refine wpList_store_row rfl 29 _ _ rfl W3.heap.size cx rfl rfl 29 #[.int .i64 0, .int .i64 0, .int .i64 0, .int .i64 0, .int .i64 0, .int .i64 0, .int .i64 0, .int .i64 0, .int .i64 0, .int .i64 0, .int .i64 0, .int .i64 0, .int .i64 0, .int .i64 0, .int .i64 0, .int .i64 0, .bool false, .int .i64 0, .int .i64 0, .int .i64 0, .slice none 0 0, .slice none 0 0, .slice none 0 0, .int .i64 0] HNB3.out HZ5.out HW5.out.symm HY5.out ?_) | (refine wpList_load_row rfl 29 _ rfl w.heap.size rfl 29 (mC m ba bc (.slice s0 sy.length s2) ta tc) (0, 0) _ HA3.out.box Tryd.underlying29 rfl (mSize _ _ _ _ _ _) ?_) | (go_at_call 8; refine (HS8.out _ HA3.out.bel HR.out).mono ?_; rintro e W4 ⟨v', rfl, hb4, h4⟩; obtain ⟨cy, rfl, sx, ax, zx⟩ := h4.form; have HSQ : Hid (SQ w (mC m ba bc (.slice s0 sy.length s2) ta tc) W3.heap.size W4.heap.size cx cy SM SS ((W4.alloc (.cells #[.int .i64 0, .int .i64 0, .int .i64 0, .int .i64 0, .int .i64 0, .int .i64 0, .int .i64 0, .int .i64 0, .int .i64 0, .int .i64 0, .int .i64 0, .int .i64 0, .int .i64 0, .int .i64 0, .int .i64 0, .int .i64 0, .bool false, .int .i64 0, .int .i64 0, .int .i64 0, .slice none 0 0, .slice none 0 0, .slice none 0 0, .int .i64 0] 29)).setRow W4.heap.size cy)) := ⟨(HA3.out.next hb4).next (newbox W4 #[.int .i64 0, .int .i64 0, .int .i64 0, .int .i64 0, .int .i64 0, .int .i64 0, .int .i64 0, .int .i64 0, .int .i64 0, .int .i64 0, .int .i64 0, .int .i64 0, .int .i64 0, .int .i64 0, .int .i64 0, .int .i64 0, .bool false, .int .i64 0, .int .i64 0, .int .i64 0, .slice none 0 0, .slice none 0 0, .slice none 0 0, .int .i64 0] cy).1, (HB3.out.next hb4).next (newbox W4 #[.int .i64 0, .int .i64 0, .int .i64 0, .int .i64 0, .int .i64 0, .int .i64 0, .int .i64 0, .int .i64 0, .int .i64 0, .int .i64 0, .int .i64 0, .int .i64 0, .int .i64 0, .int .i64 0, .int .i64 0, .int .i64 0, .bool false, .int .i64 0, .int .i64 0, .int .i64 0, .slice none 0 0, .slice none 0 0, .slice none 0 0, .int .i64 0] cy).1, (newbox W4 #[.int .i64 0, .int .i64 0, .int .i64 0, .int .i64 0, .int .i64 0, .int .i64 0, .int .i64 0, .int .i64 0, .int .i64 0, .int .i64 0, .int .i64 0, .int .i64 0, .int .i64 0, .int .i64 0, .int .i64 0, .int .i64 0, .bool false, .int .i64 0, .int .i64 0, .int .i64 0, .slice none 0 0, .slice none 0 0, .slice none 0 0, .int .i64 0] cy).2, (HM3.out.next hb4).next (newbox W4 #[.int .i64 0, .int .i64 0, .int .i64 0, .int .i64 0, .int .i64 0, .int .i64 0, .int .i64 0, .int .i64 0, .int .i64 0, .int .i64 0, .int .i64 0, .int .i64 0, .int .i64 0, .int .i64 0, .int .i64 0, .int .i64 0, .bool false, .int .i64 0, .int .i64 0, .int .i64 0, .slice none 0 0, .slice none 0 0, .slice none 0 0, .int .i64 0] cy).1, h4.mv.next (newbox W4 #[.int .i64 0, .int .i64 0, .int .i64 0, .int .i64 0, .int .i64 0, .int .i64 0, .int .i64 0, .int .i64 0, .int .i64 0, .int .i64 0, .int .i64 0, .int .i64 0, .int .i64 0, .int .i64 0, .int .i64 0, .int .i64 0, .bool false, .int .i64 0, .int .i64 0, .int .i64 0, .slice none 0 0, .slice none 0 0, .slice none 0 0, .int .i64 0] cy).1, HL3.out, (by have := hb4.size; have := HB3.out.lt; omega)⟩; have HNB4 := Lib.hid (blk_new W4 #[.int .i64 0, .int .i64 0, .int .i64 0, .int .i64 0, .int .i64 0, .int .i64 0, .int .i64 0, .int .i64 0, .int .i64 0, .int .i64 0, .int .i64 0, .int .i64 0, .int .i64 0, .int .i64 0, .int .i64 0, .int .i64 0, .bool false, .int .i64 0, .int .i64 0, .int .i64 0, .slice none 0 0, .slice none 0 0, .slice none 0 0, .int .i64 0] 29); have HZ8 := Lib.hid sx; have HY8 := Lib.hid ax; have HW8 := Lib.hid zx; clear hb4 h4 sx ax zx) | (refine wpList_store_row rfl 29 _ _ rfl W4.heap.size cy rfl rfl 29 #[.int .i64 0, .int .i64 0, .int .i64 0, .int .i64 0, .int .i64 0, .int .i64 0, .int .i64 0, .int .i64 0, .int .i64 0, .int .i64 0, .int .i64 0, .int .i64 0, .int .i64 0, .int .i64 0, .int .i64 0, .int .i64 0, .bool false, .int .i64 0, .int .i64 0, .int .i64 0, .slice none 0 0, .slice none 0 0, .slice none 0 0, .int .i64 0] HNB4.out HZ8.out HW8.out.symm HY8.out ?_))
    clear HNB3 HNB4 HA3 HB3 HM3 HL3 HS7 HS8 HA2
    generalize W3.heap.size = q5 at *
    generalize W4.heap.size = q8 at *
    generalize World.setRow (World.alloc W4 _) _ _ = U at *
    have HSQD : Hid (SQ w (mC m ba bc (.slice s0 sy.length s2) ta tc) q5 q8 cx cy SM SS U.drew) := HSQ.out.next (Below.refl _ _).drew
    clear HSQ
    refine wp_region_noPanic ?_
    refine wp_region_held_drew (S := fun w' => SQ w (mC m ba bc (.slice s0 sy.length s2) ta tc) q5 q8 cx cy SM SS w') (by kernel_rfl) HSQD.out (fun hHeld => ?_)
    generalize U.drew = V0 at *
    clear HSQD
    refine take_at 0 26 (v := ?_) rfl rfl (by kernel_rfl) (by kernel_rfl) (by kernel_rfl) (fun _ _ _ h => h) rfl ?_ hHeld ?_
    rotate_left
    · intro w hSw
      go_simp
      try with_reducible rfl
    simp only [List.setIfInBounds_toArray, List.set_cons_zero, List.set_cons_succ]
    refine take_at 1 27 (v := ?_) rfl rfl (by kernel_rfl) (by kernel_rfl) (by kernel_rfl) (fun _ _ _ h => h) rfl ?_ hHeld ?_
    rotate_left
    · intro w hSw
      go_simp
      try with_reducible rfl
    simp only [List.setIfInBounds_toArray, List.set_cons_zero, List.set_cons_succ]
    refine take_at 2 28 (v := ?_) rfl rfl (by kernel_rfl) (by kernel_rfl) (by kernel_rfl) (fun _ _ _ h => h) rfl ?_ hHeld ?_
    rotate_left
    · intro w hSw
      go_simp
      try with_reducible rfl
    simp only [List.setIfInBounds_toArray, List.set_cons_zero, List.set_cons_succ]
    refine take_at 3 29 (v := ?_) rfl rfl (by kernel_rfl) (by kernel_rfl) (by kernel_rfl) (fun _ _ _ h => h) rfl ?_ hHeld ?_
    rotate_left
    · intro w hSw
      go_simp
      try with_reducible rfl
    simp only [List.setIfInBounds_toArray, List.set_cons_zero, List.set_cons_succ]
    refine take_at 4 30 (v := ?_) rfl rfl (by kernel_rfl) (by kernel_rfl) (by kernel_rfl) (fun _ _ _ h => h) rfl ?_ hHeld ?_
    rotate_left
    · intro w hSw
      go_simp
      try with_reducible rfl
    simp only [List.setIfInBounds_toArray, List.set_cons_zero, List.set_cons_succ]
    refine take_at 5 31 (v := ?_) rfl rfl (by kernel_rfl) (by kernel_rfl) (by kernel_rfl) (fun _ _ _ h => h) rfl ?_ hHeld ?_
    rotate_left
    · intro w hSw
      go_simp
      try with_reducible rfl
    simp only [List.setIfInBounds_toArray, List.set_cons_zero, List.set_cons_succ]
    refine take_at 6 32 (v := ?_) rfl rfl (by kernel_rfl) (by kernel_rfl) (by kernel_rfl) (fun _ _ _ h => h) rfl ?_ hHeld ?_
    rotate_left
    · intro w hSw
      go_simp
      try with_reducible rfl
    simp only [List.setIfInBounds_toArray, List.set_cons_zero, List.set_cons_succ]
    refine take_at 7 33 (v := ?_) rfl rfl (by kernel_rfl) (by kernel_rfl) (by kernel_rfl) (fun _ _ _ h => h) rfl ?_ hHeld ?_
    rotate_left
    · intro w hSw
      go_simp
      try with_reducible rfl
    simp only [List.setIfInBounds_toArray, List.set_cons_zero, List.set_cons_succ]
    refine take_at 8 34 (v := ?_) rfl rfl (by kernel_rfl) (by kernel_rfl) (by kernel_rfl) (fun _ _ _ h => h) rfl ?_ hHeld ?_
    rotate_left
    · intro w hSw
      go_simp
      try with_reducible rfl
    simp only [List.setIfInBounds_toArray, List.set_cons_zero, List.set_cons_succ]
    refine take_row 9 35 rfl rfl (by kernel_rfl) (by kernel_rfl) (by kernel_rfl) q5 29 cx (0, 0) _ 29 _ (fun _ _ _ h => h) rfl rfl rfl (fun _ h => h.b5) Tryd.underlying29 rfl HZ5.out hHeld ?_
    simp only [List.setIfInBounds_toArray, List.set_cons_zero, List.set_cons_succ]
    refine take_row 10 36 rfl rfl (by kernel_rfl) (by kernel_rfl) (by kernel_rfl) q8 29 cy (0, 0) _ 29 _ (fun _ _ _ h => h) rfl rfl rfl (fun _ h => h.b8) Tryd.underlying29 rfl HZ8.out hHeld ?_
    simp only [List.setIfInBounds_toArray, List.set_cons_zero, List.set_cons_succ]
    refine wpAnyH_ready (rs := [11]) (by kernel_rfl) (by simp) ?_
    refine AllReadyH.cons rfl (fun K hK => ?_) AllReadyH.nil
    go_simp
    refine (HSM.out V0 _ _ hHeld.m5 hHeld.m8).mono ?_
    rintro e V1 ⟨rfl, hb⟩
    have hH := hHeld.next hb
    refine hK.out _ _ hH (fun hHeld => ?_)
    clear hK K hb hH
    refine take_at 12 38 (v := ?_) rfl rfl (by kernel_rfl) (by kernel_rfl) (by kernel_rfl) (fun _ _ _ h => h) rfl ?_ hHeld ?_
    rotate_left
    · intro w hSw
      go_simp
      try with_reducible rfl
    simp only [List.setIfInBounds_toArray, List.set_cons_zero, List.set_cons_succ]
    refine take_at 13 39 (v := ?_) rfl rfl (by kernel_rfl) (by kernel_rfl) (by kernel_rfl) (fun _ _ _ h => h) rfl ?_ hHeld ?_
    rotate_left
    · intro w hSw
      go_simp
      try with_reducible rfl
    simp only [List.setIfInBounds_toArray, List.set_cons_zero, List.set_cons_succ]
    refine take_at 14 40 (v := ?_) rfl rfl (by kernel_rfl) (by kernel_rfl) (by kernel_rfl) (fun _ _ _ h => h) rfl ?_ hHeld ?_
    rotate_left
    · intro w hSw
      go_simp
      try with_reducible rfl
    simp only [List.setIfInBounds_toArray, List.set_cons_zero, List.set_cons_succ]
    refine take_row 15 41 rfl rfl (by kernel_rfl) (by kernel_rfl) (by kernel_rfl) w.heap.size 29 (mC m ba bc (.slice s0 sy.length s2) ta tc) (0, 0) _ 29 _ (fun _ _ _ h => h) rfl rfl rfl (fun _ h => h.ab.box) Tryd.underlying29 rfl (mSize _ _ _ _ _ _) hHeld ?_
    simp only [List.setIfInBounds_toArray, List.set_cons_zero, List.set_cons_succ]
    refine take_row 17 43 rfl rfl (by kernel_rfl) (by kernel_rfl) (by kernel_rfl) w.heap.size 29 (mC m ba bc (.slice s0 sy.length s2) ta tc) (0, 0) _ 29 _ (fun _ _ _ h => h) rfl rfl rfl (fun _ h => h.ab.box) Tryd.underlying29 rfl (mSize _ _ _ _ _ _) hHeld ?_
    simp only [List.setIfInBounds_toArray, List.set_cons_zero, List.set_cons_succ]
    refine wpAnyH_ready (rs := [16]) (by kernel_rfl) (by simp) ?_
    refine AllReadyH.cons rfl (fun K hK => ?_) AllReadyH.nil
    go_simp
    refine (HOWN.out V1 hHeld.ab.bel).mono ?_
    rintro e V2 ⟨co, rfl, hb, ho⟩
    have HO := Lib.hid ho
    clear ho
    have hH := hHeld.next hb
    refine hK.out _ _ hH (fun hHeld => ?_)
    clear hK K hb hH
    refine wpAnyH_ready (rs := [18]) (by kernel_rfl) (by simp) ?_
    refine AllReadyH.cons rfl (fun K hK => ?_) AllReadyH.nil
    go_simp
    refine (HSMm.out V2 _ _ HO.out (HARG.out V2 hHeld.ab.bel)).mono ?_
    rintro e V3 ⟨rfl, hb⟩
    have hH := hHeld.next hb
    refine hK.out _ _ hH (fun hHeld => ?_)
    clear hK K hb hH
    clear HO
    refine take_at 19 45 (v := ?_) rfl rfl (by kernel_rfl) (by kernel_rfl) (by kernel_rfl) (fun _ _ _ h => h) rfl ?_ hHeld ?_
    rotate_left
    · intro w hSw
      go_simp
      try with_reducible rfl
    simp only [List.setIfInBounds_toArray, List.set_cons_zero, List.set_cons_succ]
    refine take_at 20 46 (v := ?_) rfl rfl (by kernel_rfl) (by kernel_rfl) (by kernel_rfl) (fun _ _ _ h => h) rfl ?_ hHeld ?_
    rotate_left
    · intro w hSw
      go_simp
      try with_reducible rfl
    simp only [List.setIfInBounds_toArray, List.set_cons_zero, List.set_cons_succ]
    refine take_at 21 47 (v := ?_) rfl rfl (by kernel_rfl) (by kernel_rfl) (by kernel_rfl) (fun _ _ _ h => h) rfl ?_ hHeld ?_
    rotate_left
    · intro w hSw
      go_simp
      try with_reducible rfl
    simp only [List.setIfInBounds_toArray, List.set_cons_zero, List.set_cons_succ]
    refine take_at 22 48 (v := ?_) rfl rfl (by kernel_rfl) (by kernel_rfl) (by kernel_rfl) (fun _ _ _ h => h) rfl ?_ hHeld ?_
    rotate_left
    · intro w hSw
      go_simp
      try with_reducible rfl
    simp only [List.setIfInBounds_toArray, List.set_cons_zero, List.set_cons_succ]
    refine take_at 23 49 (v := ?_) rfl rfl (by kernel_rfl) (by kernel_rfl) (by kernel_rfl) (fun _ _ _ h => h) rfl ?_ hHeld ?_
    rotate_left
    · intro w hSw
      obtain ⟨x19, x20, x21⟩ := img19 hSw.ab.box
      go_simp
      try with_reducible rfl
    simp only [List.setIfInBounds_toArray, List.set_cons_zero, List.set_cons_succ]
    refine take_at 25 51 (v := ?_) rfl rfl (by kernel_rfl) (by kernel_rfl) (by kernel_rfl) (fun _ _ _ h => h) rfl ?_ hHeld ?_
    rotate_left
    · intro w hSw
      go_simp
      try with_reducible rfl
    simp only [List.setIfInBounds_toArray, List.set_cons_zero, List.set_cons_succ]
    refine take_at 26 52 (v := ?_) rfl rfl (by kernel_rfl) (by kernel_rfl) (by kernel_rfl) (fun _ _ _ h => h) rfl ?_ hHeld ?_
    rotate_left
    · intro w hSw
      obtain ⟨x19, x20, x21⟩ := img19 hSw.ab.box
      go_simp
      try with_reducible rfl
    simp only [List.setIfInBounds_toArray, List.set_cons_zero, List.set_cons_succ]
    refine wpAnyH_ready (rs := [24]) (by kernel_rfl) (by simp) ?_
    refine AllReadyH.cons rfl (fun K hK => ?_) AllReadyH.nil
    go_simp
    refine (HNEW.out V3 hHeld.ab.bel).mono ?_
    rintro e V4 ⟨cn, rfl, hb, ho⟩
    have HN4 := Lib.hid ho
    clear ho
    have hH := hHeld.next hb
    refine hK.out _ _ hH (fun hHeld => ?_)
    clear hK K hb hH
    refine wpAnyH_ready (rs := [27]) (by kernel_rfl) (by simp) ?_
    refine AllReadyH.cons rfl (fun K hK => ?_) AllReadyH.nil
    go_simp
    refine (HRNEW.out V4 hHeld.ab.bel).mono ?_
    rintro e V5 ⟨cr, rfl, hb, ho⟩
    have HN5 := Lib.hid ho
    have HN6 := Lib.hid (HN4.out.next hb)
    clear ho HN4
    have hH := hHeld.next hb
    refine hK.out _ _ hH (fun hHeld => ?_)
    clear hK K hb hH
    refine wpAnyH_ready (rs := [28]) (by kernel_rfl) (by simp) ?_
    refine AllReadyH.cons rfl (fun K hK => ?_) AllReadyH.nil
    go_simp
    refine (HSMn.out V5 _ _ HN6.out HN5.out).mono ?_
    rintro e V6 ⟨rfl, hb⟩
    have hH := hHeld.next hb
    refine hK.out _ _ hH (fun hHeld => ?_)
    clear hK K hb hH
    clear HN5 HN6
    refine take_at 29 55 (v := ?_) rfl rfl (by kernel_rfl) (by kernel_rfl) (by kernel_rfl) (fun _ _ _ h => h) rfl ?_ hHeld ?_
    rotate_left
    · intro w hSw
      go_simp
      try with_reducible rfl
    simp only [List.setIfInBounds_toArray, List.set_cons_zero, List.set_cons_succ]
    refine take_at 30 56 (v := ?_) rfl rfl (by kernel_rfl) (by kernel_rfl) (by kernel_rfl) (fun _ _ _ h => h) rfl ?_ hHeld ?_
    rotate_left
    · intro w hSw
      go_simp
      try with_reducible rfl
    simp only [List.setIfInBounds_toArray, List.set_cons_zero, List.set_cons_succ]
    refine take_at 31 57 (v := ?_) rfl rfl (by kernel_rfl) (by kernel_rfl) (by kernel_rfl) (fun _ _ _ h => h) rfl ?_ hHeld ?_
    rotate_left
    · intro w hSw
      go_simp
      try with_reducible rfl
    simp only [List.setIfInBounds_toArray, List.set_cons_zero, List.set_cons_succ]
    refine take_at 32 58 (v := ?_) rfl rfl (by kernel_rfl) (by kernel_rfl) (by kernel_rfl) (fun _ _ _ h => h) rfl ?_ hHeld ?_
    rotate_left
    · intro w hSw
      go_simp
      try with_reducible rfl
    simp only [List.setIfInBounds_toArray, List.set_cons_zero, List.set_cons_succ]
    refine take_at 33 59 (v := ?_) rfl rfl (by kernel_rfl) (by kernel_rfl) (by kernel_rfl) (fun _ _ _ h => h) rfl ?_ hHeld ?_
    rotate_left
    · intro w hSw
      obtain ⟨x19, x20, x21⟩ := img19 hSw.ab.box
      go_simp
      try with_reducible rfl
    simp only [List.setIfInBounds_toArray, List.set_cons_zero, List.set_cons_succ]
    refine take_at 35 61 (v := ?_) rfl rfl (by kernel_rfl) (by kernel_rfl) (by kernel_rfl) (fun _ _ _ h => h) rfl ?_ hHeld ?_
    rotate_left
    · intro w hSw
      go_simp
      try with_reducible rfl
    simp only [List.setIfInBounds_toArray, List.set_cons_zero, List.set_cons_succ]
    refine take_at 36 62 (v := ?_) rfl rfl (by kernel_rfl) (by kernel_rfl) (by kernel_rfl) (fun _ _ _ h => h) rfl ?_ hHeld ?_
    rotate_left
    · intro w hSw
      obtain ⟨x19, x20, x21⟩ := img19 hSw.ab.box
      go_simp
      try with_reducible rfl
    simp only [List.setIfInBounds_toArray, List.set_cons_zero, List.set_cons_succ]
    refine wpAnyH_ready (rs := [34]) (by kernel_rfl) (by simp) ?_
    refine AllReadyH.cons rfl (fun K hK => ?_) AllReadyH.nil
    go_simp
    refine (HIMG.out V6 hHeld.ab.bel).mono ?_
    rintro e V7 ⟨cv, sv, rfl, hb, h1, h2⟩
    have HI1 := Lib.hid h1
    have HI2 := Lib.hid h2
    clear h1 h2
    have hH := hHeld.next hb
    refine hK.out _ _ hH (fun hHeld => ?_)
    clear hK K hb hH
    refine wpAnyH_ready (rs := [37]) (by kernel_rfl) (by simp) ?_
    refine AllReadyH.cons rfl (fun K hK => ?_) AllReadyH.nil
    go_simp
    refine (HSIM.out V7 cv sv hHeld.ab.bel HI1.out HI2.out).mono ?_
    rintro e V8 ⟨rfl, hb⟩
    have hH := hHeld.next hb
    refine hK.out _ _ hH (fun hHeld => ?_)
    clear hK K hb hH
    clear HI1 HI2
    refine take_at 38 64 (v := ?_) rfl rfl (by kernel_rfl) (by kernel_rfl) (by kernel_rfl) (fun _ _ _ h => h) rfl ?_ hHeld ?_
    rotate_left
    · intro w hSw
      go_simp
      try with_reducible rfl
    simp only [List.setIfInBounds_toArray, List.set_cons_zero, List.set_cons_succ]
    refine take_at 39 65 (v := ?_) rfl rfl (by kernel_rfl) (by kernel_rfl) (by kernel_rfl) (fun _ _ _ h => h) rfl ?_ hHeld ?_
    rotate_left
    · intro w hSw
      go_simp
      try with_reducible rfl
    simp only [List.setIfInBounds_toArray, List.set_cons_zero, List.set_cons_succ]
    refine wpAnyH_done (by kernel_rfl) ?_ _
    refine NoPanic.normal ?_
    have HQ := Lib.hid hHeld
    have hq5 := hHeld.l5
    have hq8 := hHeld.l8
    have hz8 := hHeld.b8.lt
    clear hHeld HSM HOWN HSMm HNEW HRNEW HSMn HIMG HSIM HARG
    go_wp2_with (first | (refine wpList_load_row rfl 29 _ rfl w.heap.size rfl 29 (mC m ba bc (.slice s0 sy.length s2) ta tc) (0, 0) _ HQ.out.ab.box Tryd.underlying29 rfl (mSize _ _ _ _ _ _) ?_) | (go_at_call 15; refine (H15.out _ HQ.out.ab.bel).mono ?_; rintro e W5 ⟨v', rfl, hb5, h5⟩; obtain ⟨c5, rfl, sx, ax, zx⟩ := h5.form; have h5b := HQ.out.b5.next hb5; have HB5 := Lib.hid h5b; have HX5 : Hid (Bx (W5.setRow q5 c5) q5 c5) := setRow_heap _ _ _ _ _ _ h5b; have HX8 : Hid (Bx (W5.setRow q5 c5) q8 cy) := (setRow_other _ _ _ _ (by omega)).trans (HQ.out.b8.next hb5); have HAB5 : Hid (AB w (mC m ba bc (.slice s0 sy.length s2) ta tc) (W5.setRow q5 c5)) := ⟨below_setRow (HQ.out.ab.next hb5).bel (by omega) _, (setRow_other _ _ _ _ (by omega)).trans (HQ.out.ab.next hb5).box⟩; have HM5 := Lib.hid (h5.row q5 (by omega) c5); have S5 := Lib.hid sx; have A5 := Lib.hid ax; have Z5 := Lib.hid zx; clear hb5 h5 h5b sx ax zx) | (refine wpList_store_row rfl 29 _ _ rfl q5 c5 rfl rfl 29 cx HB5.out S5.out (HW5.out.trans Z5.out.symm) A5.out ?_) | (refine wpList_load_row rfl 29 _ rfl w.heap.size rfl 29 (mC m ba bc (.slice s0 sy.length s2) ta tc) (0, 0) _ HAB5.out.box Tryd.underlying29 rfl (mSize _ _ _ _ _ _) ?_) | (go_at_call 16; refine (H16.out _ HAB5.out.bel).mono ?_; rintro e W6 ⟨v', rfl, hb6, h6⟩; obtain ⟨c6, rfl, sx, ax, zx⟩ := h6.form; have h8b := HX8.out.next hb6; have HB8 := Lib.hid h8b; have HX6 : Hid (Bx (W6.setRow q8 c6) q8 c6) := setRow_heap _ _ _ _ _ _ h8b; have HX7 : Hid (Bx (W6.setRow q8 c6) q5 c5) := (setRow_other _ _ _ _ (by omega)).trans (HX5.out.next hb6); have hz6 := HX8.out.lt; have HM6 := Lib.hid (h6.row q8 (by omega) c6).mv; have HM7 := Lib.hid ((HM5.out.next hb6).row q8 (by omega) c6).mv; have HBE : Hid (Below w.heap.size w (W6.setRow q8 c6)) := below_setRow (HAB5.out.next hb6).bel (by omega) _; have S6 := Lib.hid sx; have A6 := Lib.hid ax; have Z6 := Lib.hid zx; clear hb6 h6 h8b sx ax zx) | (refine wpList_store_row rfl 29 _ _ rfl q8 c6 rfl rfl 29 cy HB8.out S6.out (HW8.out.trans Z6.out.symm) A6.out ?_) | (refine wpList_load_rowG (by rfl) 29 _ rfl q5 rfl 29 c5 (0, 0) _ HX7.out Tryd.underlying29 rfl S5.out ?_) | (refine wpList_load_rowG (by rfl) 29 _ rfl q8 rfl 29 c6 (0, 0) _ HX6.out Tryd.underlying29 rfl S6.out ?_) | (go_at_call 9; refine (HSMR.out _ _ _ HM7.out HM6.out).mono ?_; rintro e W7 ⟨rfl, hb7⟩; have HB7 := Lib.hid (bnx HBE.out hb7); clear hb7))
    go_ret
    exact ⟨rfl, HB7.out⟩

end Go.Proofs.YtabepbaldadmgaaDoor
