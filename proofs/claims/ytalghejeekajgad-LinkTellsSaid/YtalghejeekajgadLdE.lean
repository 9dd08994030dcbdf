/- The program's own each: what is done with object by object. -/
import Derived.Test.YtalghejeekajgadLdW
namespace Go.Proofs.Ytalghejeekajgad
open Go.RowKit

/-- Blocks other than of bytes, of syms and of images are as they were. -/
def KeepT (W W' : World) : Prop := W.heap.size ≤ W'.heap.size ∧ ∀ (q : Nat) (c : Array Value) (t : TypeId) (f : Nat × Nat), W.heap[q]? = some (.cells c t f) → t ≠ 5 → t ≠ 49 → t ≠ 38 → W'.heap[q]? = some (.cells c t f)
theorem KeepT.refl (W : World) : KeepT W W := ⟨Nat.le_refl _, fun _ _ _ _ h _ _ _ => h⟩
theorem KeepT.trans {A B C : World} (h : KeepT A B) (k : KeepT B C) : KeepT A C := ⟨Nat.le_trans h.1 k.1, fun q c t f hb h1 h2 h3 => k.2 q c t f (h.2 q c t f hb h1 h2 h3) h1 h2 h3⟩
theorem KeepT.of {W W' : World} (h : Below W.heap.size W W') : KeepT W W' := ⟨h.size, fun q c t f hb _ _ _ => by rw [h.block q (Array.getElem?_eq_some_iff.1 hb).1]; exact hb⟩
theorem KeepT.row {W W' : World} (h : KeepT W W') {g n k : Nat} {B : Nat → Int} (hr : IRow W g n k B) : IRow W' g n k B := by
  obtain ⟨cs, hb, hx⟩ := hr
  exact ⟨cs, h.2 g cs 3 (0, 0) hb (by decide) (by decide) (by decide), hx⟩
/-- A block that is laid later is changed. -/
theorem KeepT.late {A W : World} (h : KeepT A W) {q i : Nat} (hq : A.heap.size ≤ q) (x : Value) : KeepT A (W.setCell ⟨q, i, none⟩ x) := by
  refine ⟨by simpa using h.1, fun p c t f hb h1 h2 h3 => ?_⟩
  have hp := (Array.getElem?_eq_some_iff.1 hb).1
  rw [Below.heap_setCell _ _ _ _ (by show p ≠ q; omega)]
  exact h.2 p c t f hb h1 h2 h3

set_option maxHeartbeats 4000000 in
theorem each_any (l : List Ob) (v : Value) (base : Int) (w0 w : World) (f : FuncId) (caps : Array Value) (hent : ∀ args w, (callFunc f args).run Try.prog w = .ok (.enter f args) w)
    (I : Nat → World → Prop) (X : Nat → Int → Prop) (hv : OObs w0 v l) (h0 : -9223372036854775808 ≤ base) (h1 : base ≤ 9223372036854775807) (hl : l.length ≤ 4)
    (hB : ∀ k W, I k W → Below w0.heap.size w0 W) (hG : ∀ k W W', I k W → Below W.heap.size W W' → I k W')
    (hS : ∀ k W (q : Nat) (c : Array Value) (f : Nat × Nat), I k W → w0.heap.size ≤ q → W.heap[q]? = some (.cells c 40 f) → ∀ i x, I k (W.setCell ⟨q, i, none⟩ x))
    (hstep : ∀ k (hk : k < l.length) c s r W, I k W → ObIn w0 c s r l[k] → Calls Try.prog f (#[.agg #[c, s, r], .int .i64 (upW (endW base (l.take k)))] ++ caps) W fun e W' => KeepT W W' ∧ Below w0.heap.size w0 W' ∧ ∃ x, e = .returned (.int .i64 x) ∧ (x = 0 → I (k + 1) W') ∧ (x ≠ 0 → X k x))
    (hI : I 0 w) :
    Calls Try.prog 29 #[v, .int .i64 base, .func (.func f) #[] caps] w fun e W' => KeepT w W' ∧ Below w0.heap.size w0 W' ∧ ∃ x a, e = .returned (.agg #[.int .i64 x, .int .i64 a]) ∧ ((x = 0 ∧ a = 0 ∧ I l.length W') ∨ (x ≠ 0 ∧ ∃ k : Nat, k < l.length ∧ a = k ∧ X k x)) := by
  have HV := Lib.hid hv
  obtain ⟨ad, cap, rfl, hm, hc⟩ := id hv
  have HC := Lib.hid hc
  have HBI := Lib.hid hB
  have HGI := Lib.hid hG
  have HSI := Lib.hid hS
  have HST := Lib.hid hstep
  have hz0 : w0.heap.size ≤ w.heap.size := (hB 0 w hI).size
  have hI1 : I 0 (w.alloc (.cells #[.int .i64 0, .int .i64 0] 40)) := hG 0 w _ hI (oalloc _ _)
  have HBAS := Lib.hid (basesW_any l (.slice ad l.length cap) base (w.alloc (.cells #[.int .i64 0, .int .i64 0] 40)) (hv.below (hB 0 _ hI1) (Nat.le_refl _)) h0 h1 (by omega))
  have HI1 := Lib.hid hI1
  have HRB := Lib.hid (blk_new w #[.int .i64 0, .int .i64 0] 40)
  have hsz : (w.alloc (.cells #[.int .i64 0, .int .i64 0] 40)).heap.size = w.heap.size + 1 := by simp
  rw [hsz] at HBAS
  have HK0 := Lib.hid (KeepT.of (oalloc w (.cells #[.int .i64 0, .int .i64 0] 40)))
  clear hv hc hB hG hS hstep hI hI1 hsz
  unfold maxLen at hm
  go_enter Try.func29, Try.ntmps29
  go_wp2_with (first | (go_at_call 13; refine HBAS.out.mono ?_; rintro e w1 ⟨rfl, hb1, hr1⟩; have HR1 := Lib.hid hr1; have hb1' : Below (w.alloc (.cells #[.int .i64 0, .int .i64 0] 40)).heap.size (w.alloc (.cells #[.int .i64 0, .int .i64 0] 40)) w1 := by simpa using hb1) | fail)
  have HI2 := Lib.hid (HGI.out 0 _ _ HI1.out hb1')
  have HRB2 := Lib.hid ((hb1'.block _ (by simp)).trans HRB.out)
  have HK1 := Lib.hid (HK0.out.trans (KeepT.of hb1'))
  clear hb1 hb1' hr1 HI1 HRB HBAS HK0
  go_wp2_with fail
  go_loopw [20] (fun i W => ∃ k : Nat, k ≤ l.length ∧ i = .int .i64 k ∧ Hid (I k W) ∧ Hid (W.heap[w.heap.size]? = some (.cells #[.int .i64 0, .int .i64 0] 40 (0, 0))) ∧ Hid (IRow W (w.heap.size + 1) l.length l.length (fun i => upW (endW base (l.take i)))) ∧ Hid (KeepT w W)) (fun i _ => l.length - (intOf i).toNat)
  case atStart => exact ⟨0, Nat.zero_le _, rfl, HI2, HRB2, HR1, HK1⟩
  case round =>
    obtain ⟨k, hk, rfl, HI, HRB, HR, HK⟩ := hrel
    clear HI2 HRB2 HR1 HK1
    by_cases hlt : k < l.length
    · have hk1 : (k : Int) < l.length := by omega
      obtain ⟨b, o, rfl, hbl, hcell⟩ := HC.out (by omega)
      obtain ⟨c, s, r, c0, c1, c2, hin⟩ := hcell k hlt
      have hbw0 := HBI.out k wr HI.out
      rw [← hbw0.cell (by exact hbl)] at c0 c1 c2
      have hbw : b < wr.heap.size := Nat.lt_of_lt_of_le hbl hbw0.size
      have HIN := Lib.hid hin
      have HIA := Lib.hid (HGI.out k _ _ HI.out (oalloc wr (.cells #[c, s, r] 26)))
      have HKA := Lib.hid (HK.out.trans (KeepT.of (oalloc wr (.cells #[c, s, r] 26))))
      have HRA := Lib.hid ((KeepT.of (oalloc wr (.cells #[c, s, r] 26))).row HR.out)
      have HRBA := Lib.hid ((KeepT.of (oalloc wr (.cells #[c, s, r] 26))).2 _ _ _ _ HRB.out (by decide) (by decide) (by decide))
      have HOB := Lib.hid (blk_new wr #[c, s, r] 26)
      obtain ⟨q1, q2, rfl, q3⟩ := id hin.1
      obtain ⟨q4, q5, rfl, q6⟩ := id hin.2.1
      obtain ⟨q7, q8, rfl, q9⟩ := id hin.2.2
      clear q3 q6 q9 hin hcell HI HK HR HRB hbw0
      go_wp2_with fail
      obtain ⟨V, hV⟩ : ∃ V, V = wr.alloc (.cells #[.slice q1 l[k].code.length q2, .slice q4 l[k].syms.length q5, .slice q7 l[k].rels.length q8] 26) := ⟨_, rfl⟩
      rw [← hV] at HIA HKA HRA HRBA HOB ⊢
      have hzV : wr.heap.size < V.heap.size := (Array.getElem?_eq_some_iff.1 HOB.out).1
      have hg5 : V.cell? ⟨w.heap.size + 1, k, none⟩ = some (.int .i64 (upW (endW base (l.take k)))) := by
        have := (HRA.out.cell hlt).1
        rwa [if_pos hlt] at this
      have hcall := Lib.hid (HST.out k hlt _ _ _ V.drew (HGI.out k _ _ HIA.out (Below.refl _ _).drew) HIN.out)
      have HA : Hid (∀ W', IRow W' (w.heap.size + 1) l.length l.length (fun i => upW (endW base (l.take i))) → W'.cell? ⟨w.heap.size + 1, k, none⟩ = some (.int .i64 (upW (endW base (l.take k))))) := fun W' h => by
        have := (h.cell hlt).1
        rwa [if_pos hlt] at this
      generalize upW (endW base (l.take k)) = A at *
      have hOBV := HOB.out
      clear hV c0 c1 c2
      refine wp_region_noPanic ?_
      refine wp_region_held_drew (S := fun X => X.heap[wr.heap.size]? = some (.cells #[.slice q1 l[k].code.length q2, .slice q4 l[k].syms.length q5, .slice q7 l[k].rels.length q8] 26 (0, 0)) ∧ X.cell? ⟨w.heap.size + 1, k, none⟩ = some (.int .i64 A)) (by kernel_rfl) ⟨hOBV, hg5⟩ (fun hHeld => ?_)
      clear hOBV hg5
      refine take_at 0 25 (v := ?_) rfl rfl (by kernel_rfl) (by kernel_rfl) (by kernel_rfl) (fun _ _ _ h => h) rfl ?_ hHeld ?_
      rotate_left
      · intro w hSw
        go_simp
        try with_reducible rfl
      simp only [List.setIfInBounds_toArray, List.set_cons_zero, List.set_cons_succ]
      refine take_at 2 27 (v := ?_) rfl rfl (by kernel_rfl) (by kernel_rfl) (by kernel_rfl) (fun _ _ _ h => h) rfl ?_ hHeld ?_
      rotate_left
      · intro w hSw
        go_simp
        try with_reducible rfl
      simp only [List.setIfInBounds_toArray, List.set_cons_zero, List.set_cons_succ]
      refine take_at 3 28 (v := ?_) rfl rfl (by kernel_rfl) (by kernel_rfl) (by kernel_rfl) (fun _ _ _ h => h) rfl ?_ hHeld ?_
      rotate_left
      · intro w hSw
        go_simp
        try with_reducible rfl
      simp only [List.setIfInBounds_toArray, List.set_cons_zero, List.set_cons_succ]
      refine take_at 4 29 (v := ?_) rfl rfl (by kernel_rfl) (by kernel_rfl) (by kernel_rfl) (fun _ _ _ h => h) rfl ?_ hHeld ?_
      rotate_left
      · intro w hSw
        go_simp
        try with_reducible rfl
      simp only [List.setIfInBounds_toArray, List.set_cons_zero, List.set_cons_succ]
      refine take_at 5 30 (v := ?_) rfl rfl (by kernel_rfl) (by kernel_rfl) (by kernel_rfl) (fun _ _ _ h => h) rfl ?_ hHeld ?_
      rotate_left
      · intro w hSw
        have x2 := hSw.2
        go_simp
        try with_reducible rfl
      simp only [List.setIfInBounds_toArray, List.set_cons_zero, List.set_cons_succ]
      refine take_at 1 26 (v := ?_) rfl rfl (by kernel_rfl) (by kernel_rfl) (by kernel_rfl) (fun _ _ _ h => h) rfl ?_ hHeld ?_
      rotate_left
      · intro w hSw
        have x0 := cell_of_block (i := 0) hSw.1 rfl
        have x1 := cell_of_block (i := 1) hSw.1 rfl
        have x2 := cell_of_block (i := 2) hSw.1 rfl
        go_simp
        try with_reducible rfl
      simp only [List.setIfInBounds_toArray, List.set_cons_zero, List.set_cons_succ]
      refine wpAnyH_ready (rs := [6]) (by kernel_rfl) (by simp) ?_
      refine AllReadyH.cons rfl (fun K hK => ?_) AllReadyH.nil
      go_simp
      refine hcall.out.mono ?_
      rintro e W' ⟨hkt, hbt, x, rfl, hx0, hx1⟩
      have HKT := Lib.hid ((KeepT.of (Below.refl V.heap.size V).drew).trans hkt)
      have HBT := Lib.hid hbt
      have HX0 := Lib.hid hx0
      have HX1 := Lib.hid hx1
      have HRA' := Lib.hid (HKT.out.row HRA.out)
      have HOB' := Lib.hid (HKT.out.2 _ _ _ _ HOB.out (by decide) (by decide) (by decide))
      have HRB' := Lib.hid (HKT.out.2 _ _ _ _ HRBA.out (by decide) (by decide) (by decide))
      have HK' := Lib.hid (HKA.out.trans HKT.out)
      have hg6 : W'.cell? ⟨w.heap.size + 1, k, none⟩ = some (.int .i64 A) := HA.out W' HRA'.out
      clear hkt hbt hx0 hx1 hcall
      go_simp
      refine hK.out _ _ ⟨HOB'.out, hg6⟩ (fun hHeld => ?_)
      clear hK K hg6
      refine take_at 7 11 (v := ?_) rfl rfl (by kernel_rfl) (by kernel_rfl) (by kernel_rfl) (fun _ _ _ h => h) rfl ?_ hHeld ?_
      rotate_left
      · intro w hSw
        go_simp
        try with_reducible rfl
      simp only [List.setIfInBounds_toArray, List.set_cons_zero, List.set_cons_succ]
      refine wpAnyH_done (by kernel_rfl) ?_ _
      refine NoPanic.normal ?_
      clear hHeld
      by_cases hx : x = 0
      · have HIN' := Lib.hid (HX0.out hx)
        subst hx
        go_wp2_with fail
        exact ⟨⟨k + 1, by omega, by go_num, HIN', HRB', HRA', HK'⟩, by simp [intOf]; omega⟩
      · have HXX := Lib.hid (HX1.out hx)
        have n0 := blk_cell (i := 0) HRB'.out rfl
        have n1 := blk_cell (i := 1) HRB'.out rfl
        have f0 := blk_froz (i := 0) HRB'.out
        have f1 := blk_froz (i := 1) HRB'.out
        have hz := (Array.getElem?_eq_some_iff.1 HRB'.out).1
        have HB3 := Lib.hid ((HBT.out.setCell (p := ⟨w.heap.size, 0, none⟩) hz0 (.int .i64 x)).setCell (p := ⟨w.heap.size, 1, none⟩) hz0 (.int .i64 k))
        have HK3 := Lib.hid ((HK'.out.late (i := 0) (Nat.le_refl _) (.int .i64 x)).late (i := 1) (Nat.le_refl _) (.int .i64 k))
        go_wp2_with fail
        refine bodyPost_ret (v := .agg #[.int .i64 x, .int .i64 k]) (by simp [results, Try.results29, go_sem, n0, n1]) rfl ?_
        exact ⟨HK3.out, HB3.out, x, k, rfl, .inr ⟨hx, k, hlt, rfl, HXX.out⟩⟩
    · have hk1 : ¬ (k : Int) < l.length := by omega
      obtain rfl : k = l.length := by omega
      have n0 := blk_cell (i := 0) HRB.out rfl
      have n1 := blk_cell (i := 1) HRB.out rfl
      have f0 := blk_froz (i := 0) HRB.out
      have f1 := blk_froz (i := 1) HRB.out
      have hz := (Array.getElem?_eq_some_iff.1 HRB.out).1
      have hI3 := HSI.out _ _ _ _ _ HI.out hz0 HRB.out 0 (.int .i64 0)
      have HI3 := Lib.hid (HSI.out _ _ _ _ _ hI3 hz0 (_root_.Go.heap_setCell_same _ _ 0 _ _ _ HRB.out) 1 (.int .i64 0))
      have HB3 := Lib.hid (HBI.out _ _ HI3.out)
      have HK3 := Lib.hid ((HK.out.late (i := 0) (Nat.le_refl _) (.int .i64 0)).late (i := 1) (Nat.le_refl _) (.int .i64 0))
      clear hI3
      go_wp2_with fail
      refine bodyPost_ret (v := .agg #[.int .i64 0, .int .i64 0]) (by simp [results, Try.results29, go_sem, n0, n1]) rfl ?_
      exact ⟨HK3.out, HB3.out, 0, 0, rfl, .inl ⟨rfl, rfl, HI3.out⟩⟩

end Go.Proofs.Ytalghejeekajgad
