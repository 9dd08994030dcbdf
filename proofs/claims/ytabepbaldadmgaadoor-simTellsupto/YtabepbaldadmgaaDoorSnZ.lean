/- SimParts: the walk. -/
import Derived.Test.YtabepbaldadmgaaDoorPut47
namespace Go.Proofs.YtabepbaldadmgaaDoor
open Go.RowKit Isa

/-- What a machine that is an argument is, behind right. -/
structure ArgM (m : Ma) (sy : List Sy) : Prop where
  bl : m.by'.length ≤ 1048576
  tl : m.told.length ≤ 1048576
  sl : sy.length ≤ 1048576
  z : ∀ k, 16 ≤ k → m.r k = 0
theorem ArgM.runs {m : Ma} {sy : List Sy} (h : ArgM m sy) (hR : (∀ k, k < 16 → in32 (m.r k)) ∧ 0 ≤ m.base ∧ m.base ≤ 1048576 ∧ 0 ≤ m.st ∧ m.st ≤ 1000000 ∧ in32 m.pc ∧ in32 m.pr) : Runs m 0 := by
  obtain ⟨h1, h2, h3, h4, h5, h6, h7⟩ := hR
  exact ⟨h2, h3, h.bl, h.tl, fun k => by
    rcases Nat.lt_or_ge k 16 with hk | hk
    · exact h1 k hk
    · rw [h.z k hk]; exact ⟨by decide, by decide⟩, h6, h7, h4, by omega⟩
theorem Runs.rest {m : Ma} {k : Nat} (h : Runs m k) (hk : k ≤ 100000) : m.by'.length ≤ 140737488355328 ∧ m.told.length ≤ 140737488355328 := ⟨by have := h.bl; omega, by have := h.tl; omega⟩

/-- The argument's box, and all that was. -/
structure AB (w : World) (c : Array Value) (W : World) : Prop where
  bel : Below w.heap.size w W
  box : W.heap[w.heap.size]? = some (.cells c 29 (0, 0))
theorem AB.next {w : World} {c : Array Value} {W W' : World} (h : AB w c W) (hb : Below W.heap.size W W') : AB w c W' := ⟨h.bel.trans (hb.mono h.bel.size), (hb.block _ (Array.getElem?_eq_some_iff.1 h.box).1).trans h.box⟩
theorem AB.lt {w : World} {c : Array Value} {W : World} (h : AB w c W) : w.heap.size < W.heap.size := (Array.getElem?_eq_some_iff.1 h.box).1
theorem AB.start (w : World) (c : Array Value) : AB w c (w.alloc (.cells c 29)) := ⟨oalloc _ _, blk_new _ _ _⟩

set_option maxHeartbeats 8000000 in
set_option maxRecDepth 100000 in
theorem parts_out (m : Ma) (sy : List Sy) (v : Value) (most more : Int) (w : World) (hv : MV w v m sy) (hL : Laid w) (hc : most < 0 ∨ 2000 < most ∨ more < most ∨ 2000 < more) :
    Calls Tryd.prog 4 #[v, .int .i64 most, .int .i64 more] w fun e w' => e = .returned (.bool true) ∧ Below w.heap.size w w' := by
  obtain ⟨ba, bc, s0, s2, ta, tc, rfl, hB, hT, hS⟩ := hv
  obtain ⟨V, hV⟩ : ∃ V, V = w.alloc (.cells (mC m ba bc (.slice s0 sy.length s2) ta tc) 29) := ⟨_, rfl⟩
  have hA := AB.start w (mC m ba bc (.slice s0 sy.length s2) ta tc)
  rw [← hV] at hA
  have HA := Lib.hid hA
  have HAL := Lib.hid (alive_any V (hL.below hA.bel hL.sz))
  have HRI : Hid (∀ X, Calls Tryd.prog 6 #[.agg (mC m ba bc (.slice s0 sy.length s2) ta tc)] X fun e w' => ∃ b, e = .returned (.bool b) ∧ Below X.heap.size X w') := fun X => (right_any m ba bc s0 sy.length s2 ta tc X).mono fun _ _ ⟨b, h1, h2, _⟩ => ⟨b, h1, h2⟩
  have HV := Lib.hid hV.symm
  clear hV hA hB hT hS hL
  have key : (most < 0) ∨ (¬ most < 0 ∧ 2000 < most) ∨ (¬ most < 0 ∧ ¬ 2000 < most ∧ more < most) ∨ (¬ most < 0 ∧ ¬ 2000 < most ∧ ¬ more < most ∧ 2000 < more) := by omega
  clear hc
  rcases key with k1 | ⟨k1, k2⟩ | ⟨k1, k2, k3⟩ | ⟨k1, k2, k3, k4⟩
  all_goals
    go_enter Tryd.func4, Tryd.ntmps4
    go_upto_region 1 with fail
    rw [HV.out]
    clear HV
    go_wp2_with (first | (go_at_call 17; refine HAL.out.mono ?_; rintro e W1 ⟨rfl, hb1⟩; have HA1 := Lib.hid (HA.out.next hb1); clear hb1) | (refine wpList_load_row rfl 29 _ rfl w.heap.size rfl 29 (mC m ba bc (.slice s0 sy.length s2) ta tc) (0, 0) _ HA1.out.box Tryd.underlying29 rfl (mSize _ _ _ _ _ _) ?_) | (go_at_call 6; refine (HRI.out _).mono ?_; rintro e W2 ⟨b, rfl, hb2⟩; have HA2 := Lib.hid (HA1.out.next hb2); clear hb2; cases b) | fail)
    all_goals
      go_ret
      exact ⟨rfl, HA2.out.bel⟩

/-- Two boxes besides the argument's: what Run answered, and the machine that goes step by step. -/
structure PS (w : World) (c cx : Array Value) (X : Ma) (sy : List Sy) (q7 q11 : Nat) (M : Ma) (W : World) : Prop where
  ab : AB w c W
  b7 : W.heap[q7]? = some (.cells cx 29 (0, 0))
  v7 : MVn q11 W (.agg cx) X sy
  b11 : ∃ cz, W.heap[q11]? = some (.cells cz 29 (0, 0)) ∧ MVn q11 W (.agg cz) M sy
  l7 : w.heap.size < q7
  l11 : q7 < q11
theorem PS.next {w : World} {c cx : Array Value} {X : Ma} {sy : List Sy} {q7 q11 : Nat} {M : Ma} {W W' : World} (h : PS w c cx X sy q7 q11 M W) (hb : Below W.heap.size W W') : PS w c cx X sy q7 q11 M W' := by
  obtain ⟨cz, h1, h2⟩ := h.b11
  exact ⟨h.ab.next hb, (hb.block _ (Array.getElem?_eq_some_iff.1 h.b7).1).trans h.b7, h.v7.next hb, ⟨cz, (hb.block _ (Array.getElem?_eq_some_iff.1 h1).1).trans h1, h2.next hb⟩, h.l7, h.l11⟩
theorem PS.put {w : World} {c cx : Array Value} {X : Ma} {sy : List Sy} {q7 q11 : Nat} {M M' : Ma} {W : World} (h : PS w c cx X sy q7 q11 M W) {cn : Array Value} (hn : MVn q11 W (.agg cn) M' sy) : PS w c cx X sy q7 q11 M' (W.setRow q11 cn) := by
  obtain ⟨cz, h1, h2⟩ := h.b11
  have l7 := h.l7
  have l11 := h.l11
  exact ⟨⟨below_setRow h.ab.bel (by omega) _, by rw [setRow_other _ _ _ _ (by omega)]; exact h.ab.box⟩, by rw [setRow_other _ _ _ _ (by omega)]; exact h.b7, h.v7.row cn, ⟨cn, setRow_heap _ _ _ _ _ _ h1, hn.row cn⟩, h.l7, h.l11⟩

set_option maxHeartbeats 8000000 in
set_option maxRecDepth 100000 in
theorem parts_in (m : Ma) (sy : List Sy) (v : Value) (n n2 : Nat) (w : World) (hv : MV w v m sy) (hL : Laid w) (hM : ArgM m sy) (hn : n ≤ n2) (hn2 : n2 ≤ 2000) :
    Calls Tryd.prog 4 #[v, .int .i64 (n : Int), .int .i64 (n2 : Int)] w fun e w' => e = .returned (.bool true) ∧ Below w.heap.size w w' := by
  have hv0 := hv
  obtain ⟨ba, bc, s0, s2, ta, tc, rfl, hB, hT, hS⟩ := hv
  obtain ⟨V, hV⟩ : ∃ V, V = w.alloc (.cells (mC m ba bc (.slice s0 sy.length s2) ta tc) 29) := ⟨_, rfl⟩
  have hA := AB.start w (mC m ba bc (.slice s0 sy.length s2) ta tc)
  rw [← hV] at hA
  have HA := Lib.hid hA
  have HAL := Lib.hid (alive_any V (hL.below hA.bel hL.sz))
  have HRI : Hid (∀ X, Calls Tryd.prog 6 #[.agg (mC m ba bc (.slice s0 sy.length s2) ta tc)] X fun e w' => ∃ b, e = .returned (.bool b) ∧ Below X.heap.size X w' ∧ (b = true → Runs m 0)) := fun X => (right_any m ba bc s0 sy.length s2 ta tc X).mono fun _ _ ⟨b, h1, h2, h3⟩ => ⟨b, h1, h2, fun hb => hM.runs (h3 hb)⟩
  have hsl : sy.length * 24 ≤ 140737488355328 := by have := hM.sl; omega
  have HARG : Hid (∀ X, Below w.heap.size w X → MV X (.agg (mC m ba bc (.slice s0 sy.length s2) ta tc)) m sy ∧ Laid X) := fun X hX => ⟨hv0.next hX, hL.below hX hL.sz⟩
  have HRUN : Hid (∀ (j : Nat) (X : World), j ≤ 2000 → Below w.heap.size w X → Runs m 0 → Calls Tryd.prog 15 #[.agg (mC m ba bc (.slice s0 sy.length s2) ta tc), .int .i64 (j : Int)] X (RnPost X j m sy)) := fun j X hj hX hR => run_in m sy _ j X (HARG.out X hX).1 (HARG.out X hX).2 hR hj hsl
  have HV := Lib.hid hV.symm
  have HLA := Lib.hid hL
  have HSY : Hid (sy.length ≤ 140737488355328) := by unfold Hid; have := hM.sl; omega
  clear hV hA hB hT hS hL hv0 hM
  have k1 : ¬ (n : Int) < 0 := by omega
  have k2 : ¬ (2000 : Int) < (n : Int) := by omega
  have k3 : ¬ (n2 : Int) < (n : Int) := by omega
  have k4 : ¬ (2000 : Int) < (n2 : Int) := by omega
  have d1 : decide ((n : Int) < 0) = false := decide_eq_false k1
  have d2 : decide ((2000 : Int) < (n : Int)) = false := decide_eq_false k2
  have d3 : decide ((n2 : Int) < (n : Int)) = false := decide_eq_false k3
  have d4 : decide ((2000 : Int) < (n2 : Int)) = false := decide_eq_false k4
  go_enter Tryd.func4, Tryd.ntmps4
  go_upto_region 1 with fail
  rw [HV.out]
  clear HV
  go_upto_region 5 with (first | (go_at_call 17; refine HAL.out.mono ?_; rintro e W1 ⟨rfl, hb1⟩; have HA1 := Lib.hid (HA.out.next hb1); clear hb1) | (refine wpList_load_row rfl 29 _ rfl w.heap.size rfl 29 (mC m ba bc (.slice s0 sy.length s2) ta tc) (0, 0) _ HA1.out.box Tryd.underlying29 rfl (mSize _ _ _ _ _ _) ?_) | (go_at_call 6; refine (HRI.out _).mono ?_; rintro e W2 ⟨b, rfl, hb2, hR2⟩; have HA2 := Lib.hid (HA1.out.next hb2); clear hb2; cases b) | fail)
  · clear hR2
    go_wp2
    go_ret
    exact ⟨rfl, HA2.out.bel⟩
  · have HR := Lib.hid (hR2 (by first | rfl | trivial))
    clear hR2 HAL HRI HA HA1 k1 k2 k3 k4 d1 d2 d3 d4
    go_upto_region 6 with (first | (refine wpList_load_row rfl 29 _ rfl w.heap.size rfl 29 (mC m ba bc (.slice s0 sy.length s2) ta tc) (0, 0) _ HA2.out.box Tryd.underlying29 rfl (mSize _ _ _ _ _ _) ?_) | (go_at_call 15; refine (HRUN.out n W2 (by omega) HA2.out.bel HR.out).mono ?_; rintro e W3 ⟨v3, rfl, hb3, h3⟩; obtain ⟨c3, rfl, f1, f2, f3⟩ : ∃ c, v3 = .agg c ∧ (Tryd.prog.info? 29).map (·.size) = some c.size ∧ c.all (·.oneCell') = true ∧ zC.size = c.size := (by rcases h3 with ⟨_, rfl⟩ | ⟨_, h4⟩; exact ⟨zC, rfl, zSize, zAll, rfl⟩; exact h4.mv.form); have HA3 := Lib.hid (HA2.out.next hb3); have HX3 := Lib.hid h3; have HL3 := Lib.hid hb3; have HN3 := Lib.hid (blk_new W3 #[.int .i64 0, .int .i64 0, .int .i64 0, .int .i64 0, .int .i64 0, .int .i64 0, .int .i64 0, .int .i64 0, .int .i64 0, .int .i64 0, .int .i64 0, .int .i64 0, .int .i64 0, .int .i64 0, .int .i64 0, .int .i64 0, .bool false, .int .i64 0, .int .i64 0, .int .i64 0, .slice none 0 0, .slice none 0 0, .slice none 0 0, .int .i64 0] 29); clear hb3 h3) | (refine wpList_store_row rfl 29 _ _ rfl W3.heap.size c3 rfl rfl 29 #[.int .i64 0, .int .i64 0, .int .i64 0, .int .i64 0, .int .i64 0, .int .i64 0, .int .i64 0, .int .i64 0, .int .i64 0, .int .i64 0, .int .i64 0, .int .i64 0, .int .i64 0, .int .i64 0, .int .i64 0, .int .i64 0, .bool false, .int .i64 0, .int .i64 0, .int .i64 0, .slice none 0 0, .slice none 0 0, .slice none 0 0, .int .i64 0] HN3.out f1 f3 f2 ?_; obtain ⟨hbx, hqx⟩ := newbox W3 #[.int .i64 0, .int .i64 0, .int .i64 0, .int .i64 0, .int .i64 0, .int .i64 0, .int .i64 0, .int .i64 0, .int .i64 0, .int .i64 0, .int .i64 0, .int .i64 0, .int .i64 0, .int .i64 0, .int .i64 0, .int .i64 0, .bool false, .int .i64 0, .int .i64 0, .int .i64 0, .slice none 0 0, .slice none 0 0, .slice none 0 0, .int .i64 0] c3; generalize World.setRow _ W3.heap.size _ = X3 at hbx hqx ⊢; have HA4 := Lib.hid (HA3.out.next hbx); have HLX := Lib.hid hbx; have HQ4 := Lib.hid hqx; clear hbx hqx HN3 HA3) | fail)
    by_cases hE : runE n m = 0
    · rw [hE]
      have HMV : Hid (MVb W2.heap.size W3 (.agg c3) (runM n m) sy) := by
        rcases HX3.out with ⟨h, _⟩ | ⟨_, h⟩
        · exact absurd hE h
        · exact h
      have HM2 := Lib.hid (run_more n n2 m hn hE)
      clear HX3 f1 f2 f3
      go_upto_region 9 with (first | (refine wpList_load_row rfl 29 _ rfl w.heap.size rfl 29 (mC m ba bc (.slice s0 sy.length s2) ta tc) (0, 0) _ HA4.out.box Tryd.underlying29 rfl (mSize _ _ _ _ _ _) ?_) | (go_at_call 15; refine (HRUN.out n2 X3 (by omega) HA4.out.bel HR.out).mono ?_; rintro e W5 ⟨v5, rfl, hb5, h5⟩; have h5m : MVb X3.heap.size W5 v5 (runM n m) sy := (by rcases h5 with ⟨h, _⟩ | ⟨_, h⟩; exact absurd HM2.out.1 h; rw [HM2.out.2] at h; exact h); obtain ⟨c5, rfl, f1, f2, f3⟩ := h5m.mv.form; rw [HM2.out.1]; have HA5 := Lib.hid (HA4.out.next hb5); have HMV5 := Lib.hid h5m; have HL5 := Lib.hid hb5; have HN5 := Lib.hid (blk_new W5 #[.int .i64 0, .int .i64 0, .int .i64 0, .int .i64 0, .int .i64 0, .int .i64 0, .int .i64 0, .int .i64 0, .int .i64 0, .int .i64 0, .int .i64 0, .int .i64 0, .int .i64 0, .int .i64 0, .int .i64 0, .int .i64 0, .bool false, .int .i64 0, .int .i64 0, .int .i64 0, .slice none 0 0, .slice none 0 0, .slice none 0 0, .int .i64 0] 29); clear hb5 h5 h5m) | (refine wpList_store_row rfl 29 _ _ rfl W5.heap.size c5 rfl rfl 29 #[.int .i64 0, .int .i64 0, .int .i64 0, .int .i64 0, .int .i64 0, .int .i64 0, .int .i64 0, .int .i64 0, .int .i64 0, .int .i64 0, .int .i64 0, .int .i64 0, .int .i64 0, .int .i64 0, .int .i64 0, .int .i64 0, .bool false, .int .i64 0, .int .i64 0, .int .i64 0, .slice none 0 0, .slice none 0 0, .slice none 0 0, .int .i64 0] HN5.out f1 f3 f2 ?_; obtain ⟨hbx, hqx⟩ := newbox W5 #[.int .i64 0, .int .i64 0, .int .i64 0, .int .i64 0, .int .i64 0, .int .i64 0, .int .i64 0, .int .i64 0, .int .i64 0, .int .i64 0, .int .i64 0, .int .i64 0, .int .i64 0, .int .i64 0, .int .i64 0, .int .i64 0, .bool false, .int .i64 0, .int .i64 0, .int .i64 0, .slice none 0 0, .slice none 0 0, .slice none 0 0, .int .i64 0] c5; generalize World.setRow _ W5.heap.size _ = X5 at hbx hqx ⊢; have HA6 := Lib.hid (HA5.out.next hbx); have HLX5 := Lib.hid hbx; have HQ6 := Lib.hid hqx; clear hbx hqx HN5 HA5) | fail)
      have HRR := Lib.hid (run_runs n m 0 HR.out hE)
      have HB7 := Lib.hid (HLX.out.trans ((HL5.out.trans (HLX5.out.mono HL5.out.size)).mono HLX.out.size))
      have HQ7 := Lib.hid (((HL5.out.trans (HLX5.out.mono HL5.out.size)).block _ (Array.getElem?_eq_some_iff.1 HQ4.out).1).trans HQ4.out)
      have HM7 := Lib.hid (HMV.out.mv.next HB7.out)
      have HM75 := Lib.hid (HMV5.out.mv.next HLX5.out)
      have HSM := Lib.hid (same_any (runM n m) sy (.agg c3) (.agg c5) X5 HM7.out HM75.out (HRR.out.rest (by omega)).1 HSY.out (HRR.out.rest (by omega)).2)
      obtain ⟨_, e3, g1, g2, g3⟩ := HM7.out.form
      cases e3
      have hlt7 : w.heap.size < W3.heap.size := Nat.lt_of_lt_of_le HA2.out.lt HL3.out.size
      have HZ7 : Hid (W3.heap.size < X5.heap.size) := (Array.getElem?_eq_some_iff.1 HQ7.out).1
      clear HQ4 HLX HL5 HLX5 HMV5 HM75 HMV HL3 HA2
      go_upto_region 11 with (first | (refine wpList_load_rowG (by rfl) 29 _ rfl W3.heap.size rfl 29 c3 (0, 0) _ HQ7.out Tryd.underlying29 rfl g1 ?_) | (refine wpList_load_rowG (by rfl) 29 _ rfl W5.heap.size rfl 29 c5 (0, 0) _ HQ6.out Tryd.underlying29 rfl f1 ?_) | (go_at_call 9; refine HSM.out.mono ?_; rintro e W7 ⟨rfl, hb7⟩; have HA7 := Lib.hid (HA6.out.next hb7); have HQ8 := Lib.hid ((hb7.block _ (Array.getElem?_eq_some_iff.1 HQ7.out).1).trans HQ7.out); have HM8 := Lib.hid (HM7.out.next hb7); have HZ8 := Lib.hid (Nat.lt_of_lt_of_le HZ7.out hb7.size); clear hb7) | fail)
      clear HSM HQ6 HQ7 HM7 HA6 HA4 f1 f2 f3 HZ7
      have HN9 := Lib.hid (blk_new W7 #[.int .i64 0, .int .i64 0, .int .i64 0, .int .i64 0, .int .i64 0, .int .i64 0, .int .i64 0, .int .i64 0, .int .i64 0, .int .i64 0, .int .i64 0, .int .i64 0, .int .i64 0, .int .i64 0, .int .i64 0, .int .i64 0, .bool false, .int .i64 0, .int .i64 0, .int .i64 0, .slice none 0 0, .slice none 0 0, .slice none 0 0, .int .i64 0] 29)
      go_wp2_with (first | (refine wpList_load_row rfl 29 _ rfl w.heap.size rfl 29 (mC m ba bc (.slice s0 sy.length s2) ta tc) (0, 0) _ HA7.out.box Tryd.underlying29 rfl (mSize _ _ _ _ _ _) ?_) | (refine wpList_store_row rfl 29 _ _ rfl W7.heap.size (mC m ba bc (.slice s0 sy.length s2) ta tc) rfl rfl 29 #[.int .i64 0, .int .i64 0, .int .i64 0, .int .i64 0, .int .i64 0, .int .i64 0, .int .i64 0, .int .i64 0, .int .i64 0, .int .i64 0, .int .i64 0, .int .i64 0, .int .i64 0, .int .i64 0, .int .i64 0, .int .i64 0, .bool false, .int .i64 0, .int .i64 0, .int .i64 0, .slice none 0 0, .slice none 0 0, .slice none 0 0, .int .i64 0] HN9.out (mSize _ _ _ _ _ _) rfl (mAll _ _ _ _ _ _ _ _) ?_) | fail)
      have HPS : Hid (PS w (mC m ba bc (.slice s0 sy.length s2) ta tc) c3 (runM n m) sy W3.heap.size W7.heap.size m ((W7.alloc (.cells #[.int .i64 0, .int .i64 0, .int .i64 0, .int .i64 0, .int .i64 0, .int .i64 0, .int .i64 0, .int .i64 0, .int .i64 0, .int .i64 0, .int .i64 0, .int .i64 0, .int .i64 0, .int .i64 0, .int .i64 0, .int .i64 0, .bool false, .int .i64 0, .int .i64 0, .int .i64 0, .slice none 0 0, .slice none 0 0, .slice none 0 0, .int .i64 0] 29)).setRow W7.heap.size (mC m ba bc (.slice s0 sy.length s2) ta tc))) := by
        obtain ⟨hbx, hqx⟩ := newbox W7 #[.int .i64 0, .int .i64 0, .int .i64 0, .int .i64 0, .int .i64 0, .int .i64 0, .int .i64 0, .int .i64 0, .int .i64 0, .int .i64 0, .int .i64 0, .int .i64 0, .int .i64 0, .int .i64 0, .int .i64 0, .int .i64 0, .bool false, .int .i64 0, .int .i64 0, .int .i64 0, .slice none 0 0, .slice none 0 0, .slice none 0 0, .int .i64 0] (mC m ba bc (.slice s0 sy.length s2) ta tc)
        exact ⟨HA7.out.next hbx, (hbx.block _ (Array.getElem?_eq_some_iff.1 HQ8.out).1).trans HQ8.out, (HM8.out.n (Nat.le_refl _)).next hbx, ⟨_, hqx, ((HARG.out W7 HA7.out.bel).1.n (Nat.le_refl _)).next hbx⟩, hlt7, HZ8.out⟩
      have HRE := Lib.hid (Reach.start HR.out)
      generalize World.setRow _ W7.heap.size _ = X9 at *
      generalize W7.heap.size = q11 at *
      generalize W3.heap.size = q7 at *
      clear HQ8 HM8 HZ8 HA7 HN9
      simp only [Act.put]
      go_loopw [10] (fun i wr => ∃ k : Nat, k ≤ n ∧ i = .int .i64 k ∧ ∃ M, Hid (Reach m k M) ∧ Hid (PS w (mC m ba bc (.slice s0 sy.length s2) ta tc) c3 (runM n m) sy q7 q11 M wr)) (fun i _ => n - (intOf i).toNat)
      case atStart => exact ⟨0, Nat.zero_le _, rfl, m, HRE, HPS⟩
      case round =>
        obtain ⟨k, hk, rfl, M, HK, HP⟩ := hrel
        clear HRE HPS
        obtain ⟨hlt, h0, hfin⟩ := HK.out.lt hE hk
        have hk1 : (k : Int) < n := by omega
        have hk2 : ¬ (n : Int) ≤ (k : Int) := by omega
        have hk3 : decide ((n : Int) ≤ (k : Int)) = false := decide_eq_false hk2
        obtain ⟨cz, hbz, hvz⟩ := HP.out.b11
        have hfz := hvz.form.1
        have hsz := hvz.form.2.2
        have HBZ := Lib.hid hbz
        have hq11 : q11 < wr.heap.size := (Array.getElem?_eq_some_iff.1 hbz).1
        have HST := Lib.hid (sstep_any M k sy (.agg cz) wr hvz.mv (HARG.out wr HP.out.ab.bel).2 HK.out.rn (by omega) hsl)
        rw [h0] at HST
        clear hbz hvz
        by_cases hd : stepD M = true
        · have HFIN := Lib.hid (hfin hd)
          have HFU := Lib.hid HK.out.fuel
          have HRS := Lib.hid (runs_step HK.out.rn (stepE_fetch h0)).1
          rw [hd] at HST
          clear h0 hd hfin HK
          generalize stepM M = M2 at *
          go_wp2_with (first | (refine wpList_load_row rfl 29 _ rfl q11 rfl 29 cz (0, 0) _ HBZ.out Tryd.underlying29 rfl hfz ?_) | (go_at_call 7; refine HST.out.mono ?_; rintro e W2' ⟨v', rfl, hb2, h2⟩; have hv2 : MVb wr.heap.size W2' v' M2 sy := (by rcases h2 with ⟨h, _⟩ | ⟨_, h⟩; exact absurd rfl h; exact h); obtain ⟨c2, rfl, u1, u2, u3⟩ := hv2.mv.form; have HN2 := Lib.hid (blk_new W2' #[.int .i64 0, .int .i64 0, .int .i64 0, .int .i64 0, .int .i64 0, .int .i64 0, .int .i64 0, .int .i64 0, .int .i64 0, .int .i64 0, .int .i64 0, .int .i64 0, .int .i64 0, .int .i64 0, .int .i64 0, .int .i64 0, .bool false, .int .i64 0, .int .i64 0, .int .i64 0, .slice none 0 0, .slice none 0 0, .slice none 0 0, .int .i64 0] 29); have HP2 := Lib.hid (HP.out.next hb2); have HV2 := Lib.hid (hv2.n hq11); have HBZ2 := Lib.hid ((hb2.block _ (Array.getElem?_eq_some_iff.1 HBZ.out).1).trans HBZ.out); clear hb2 h2 hv2 HP HBZ HST) | (refine wpList_store_row rfl 29 _ _ rfl W2'.heap.size c2 rfl rfl 29 #[.int .i64 0, .int .i64 0, .int .i64 0, .int .i64 0, .int .i64 0, .int .i64 0, .int .i64 0, .int .i64 0, .int .i64 0, .int .i64 0, .int .i64 0, .int .i64 0, .int .i64 0, .int .i64 0, .int .i64 0, .int .i64 0, .bool false, .int .i64 0, .int .i64 0, .int .i64 0, .slice none 0 0, .slice none 0 0, .slice none 0 0, .int .i64 0] HN2.out u1 u3 u2 ?_; obtain ⟨hbx, hqx⟩ := newbox W2' #[.int .i64 0, .int .i64 0, .int .i64 0, .int .i64 0, .int .i64 0, .int .i64 0, .int .i64 0, .int .i64 0, .int .i64 0, .int .i64 0, .int .i64 0, .int .i64 0, .int .i64 0, .int .i64 0, .int .i64 0, .int .i64 0, .bool false, .int .i64 0, .int .i64 0, .int .i64 0, .slice none 0 0, .slice none 0 0, .slice none 0 0, .int .i64 0] c2; generalize World.setRow _ W2'.heap.size _ = X2 at hbx hqx ⊢; have HP3 := Lib.hid (HP2.out.next hbx); have HV3 := Lib.hid (HV2.out.next hbx); have HQ3 := Lib.hid hqx; have HBZ3 := Lib.hid ((hbx.block _ (Array.getElem?_eq_some_iff.1 HBZ2.out).1).trans HBZ2.out); clear hbx hqx HN2 HP2 HV2 HBZ2) | (refine wpList_load_row rfl 29 _ rfl W2'.heap.size rfl 29 c2 (0, 0) _ HQ3.out Tryd.underlying29 rfl u1 ?_) | (refine wpList_store_row rfl 29 _ _ rfl q11 c2 rfl rfl 29 cz HBZ3.out u1 (hsz.symm.trans u3) u2 ?_; have HP4 := Lib.hid (HP3.out.put HV3.out); have HV4 := Lib.hid (HV3.out.row c2); have HQ4 := Lib.hid (setRow_heap _ _ _ c2 _ _ HBZ3.out); generalize World.setRow X2 q11 c2 = X3 at *; clear HP3 HV3 HQ3 HBZ3) | (refine wpList_load_row rfl 29 _ rfl w.heap.size rfl 29 (mC m ba bc (.slice s0 sy.length s2) ta tc) (0, 0) _ HP4.out.ab.box Tryd.underlying29 rfl (mSize _ _ _ _ _ _) ?_) | (go_at_call 15; refine (HRUN.out k X3 (by omega) HP4.out.ab.bel HR.out).mono ?_; rintro e W5' ⟨v5, rfl, hb5, h5⟩; rw [HFU.out]; have HP5 := Lib.hid (HP4.out.next hb5); have HV5 := Lib.hid (HV4.out.next hb5); have HQ5 := Lib.hid ((hb5.block _ (Array.getElem?_eq_some_iff.1 HQ4.out).1).trans HQ4.out); clear hb5 h5 HP4 HV4 HQ4) | (refine wpList_load_row rfl 29 _ rfl q7 rfl 29 c3 (0, 0) _ HP5.out.b7 Tryd.underlying29 rfl g1 ?_) | (refine wpList_load_row rfl 29 _ rfl q11 rfl 29 c2 (0, 0) _ HQ5.out Tryd.underlying29 rfl u1 ?_) | (go_at_call 9; refine (same_any M2 sy (.agg c3) (.agg c2) _ (HFIN.out ▸ HP5.out.v7.mv) HV5.out.mv (HRS.out.rest (by omega)).1 HSY.out (HRS.out.rest (by omega)).2).mono ?_; rintro e W6 ⟨rfl, hb6⟩; have HB6 := Lib.hid (HP5.out.next hb6).ab.bel; clear hb6) | fail)
          go_ret
          exact ⟨rfl, HB6.out⟩
        · have hd' : stepD M = false := by simpa using hd
          have HK2 := Lib.hid (HK.out.step h0 hd')
          rw [hd'] at HST
          clear h0 hd hd' hfin HK
          generalize stepM M = M2 at *
          go_wp2_with (first | (refine wpList_load_row rfl 29 _ rfl q11 rfl 29 cz (0, 0) _ HBZ.out Tryd.underlying29 rfl hfz ?_) | (go_at_call 7; refine HST.out.mono ?_; rintro e W2' ⟨v', rfl, hb2, h2⟩; have hv2 : MVb wr.heap.size W2' v' M2 sy := (by rcases h2 with ⟨h, _⟩ | ⟨_, h⟩; exact absurd rfl h; exact h); obtain ⟨c2, rfl, u1, u2, u3⟩ := hv2.mv.form; have HN2 := Lib.hid (blk_new W2' #[.int .i64 0, .int .i64 0, .int .i64 0, .int .i64 0, .int .i64 0, .int .i64 0, .int .i64 0, .int .i64 0, .int .i64 0, .int .i64 0, .int .i64 0, .int .i64 0, .int .i64 0, .int .i64 0, .int .i64 0, .int .i64 0, .bool false, .int .i64 0, .int .i64 0, .int .i64 0, .slice none 0 0, .slice none 0 0, .slice none 0 0, .int .i64 0] 29); have HP2 := Lib.hid (HP.out.next hb2); have HV2 := Lib.hid (hv2.n hq11); have HBZ2 := Lib.hid ((hb2.block _ (Array.getElem?_eq_some_iff.1 HBZ.out).1).trans HBZ.out); clear hb2 h2 hv2 HP HBZ HST) | (refine wpList_store_row rfl 29 _ _ rfl W2'.heap.size c2 rfl rfl 29 #[.int .i64 0, .int .i64 0, .int .i64 0, .int .i64 0, .int .i64 0, .int .i64 0, .int .i64 0, .int .i64 0, .int .i64 0, .int .i64 0, .int .i64 0, .int .i64 0, .int .i64 0, .int .i64 0, .int .i64 0, .int .i64 0, .bool false, .int .i64 0, .int .i64 0, .int .i64 0, .slice none 0 0, .slice none 0 0, .slice none 0 0, .int .i64 0] HN2.out u1 u3 u2 ?_; obtain ⟨hbx, hqx⟩ := newbox W2' #[.int .i64 0, .int .i64 0, .int .i64 0, .int .i64 0, .int .i64 0, .int .i64 0, .int .i64 0, .int .i64 0, .int .i64 0, .int .i64 0, .int .i64 0, .int .i64 0, .int .i64 0, .int .i64 0, .int .i64 0, .int .i64 0, .bool false, .int .i64 0, .int .i64 0, .int .i64 0, .slice none 0 0, .slice none 0 0, .slice none 0 0, .int .i64 0] c2; generalize World.setRow _ W2'.heap.size _ = X2 at hbx hqx ⊢; have HP3 := Lib.hid (HP2.out.next hbx); have HV3 := Lib.hid (HV2.out.next hbx); have HQ3 := Lib.hid hqx; have HBZ3 := Lib.hid ((hbx.block _ (Array.getElem?_eq_some_iff.1 HBZ2.out).1).trans HBZ2.out); clear hbx hqx HN2 HP2 HV2 HBZ2) | (refine wpList_load_row rfl 29 _ rfl W2'.heap.size rfl 29 c2 (0, 0) _ HQ3.out Tryd.underlying29 rfl u1 ?_) | (refine wpList_store_row rfl 29 _ _ rfl q11 c2 rfl rfl 29 cz HBZ3.out u1 (hsz.symm.trans u3) u2 ?_; have HP4 := Lib.hid (HP3.out.put HV3.out); have HV4 := Lib.hid (HV3.out.row c2); have HQ4 := Lib.hid (setRow_heap _ _ _ c2 _ _ HBZ3.out); generalize World.setRow X2 q11 c2 = X3 at *; clear HP3 HV3 HQ3 HBZ3) | fail)
          exact ⟨⟨k + 1, by omega, by go_num, M2, HK2, HP4⟩, by simp [intOf]; omega⟩
    · have hEb : (runE n m != 0) = true := by simpa using hE
      clear hE HX3 f1 f2 f3
      generalize runE n m = EE at *
      go_wp2
      go_ret
      exact ⟨rfl, HA4.out.bel⟩

end Go.Proofs.YtabepbaldadmgaaDoor
