/- ExprMoves answers true: the walk. -/
import Derived.Test.YtibenegbjpoclabDoorAlB
import Derived.Test.YtibenegbjpoclabDoorReC
namespace Go.Proofs.YtibenegbjpoclabDoor
open Go.RowKit

theorem qreads_one (w : World) (name : List UInt8) (n : Int) (cap : Nat) (t : TypeId) : QReads (w.alloc (.cells #[.string ⟨name.toArray⟩, .int .i64 n] t)) (.slice (some ⟨w.heap.size, 0, none⟩) 1 cap) [(name, n)] := by
  refine ⟨_, cap, rfl, by simp [maxLen], fun _ => ⟨w.heap.size, 0, rfl, by simp, fun i hi => ?_⟩⟩
  have : i = 0 := by simpa using hi
  subst this
  exact ⟨cell_at rfl rfl, cell_at rfl rfl⟩

theorem rsigned_same (n : Int) (w : World) : Calls Tryd.prog 14 #[.int .i64 n] w fun e w' => e = .returned (.int .i64 (sgn n)) ∧ w' = w :=
  (rsigned_any n w).mono fun _ _ h => ⟨h.1, h.2.symm⟩

set_option maxHeartbeats 4000000 in
set_option maxRecDepth 100000 in
theorem moves_any (x : Ex) (kv : Value) (name : List UInt8) (n : Int) (w : World) (p : Nat → Prop) (hL : KLaid w) (hT : Lib.TabIs Tryd.prog w "internal/strconv.uint64pow10" .u64 Lib.pow10Tab) (hs : 1 < w.heap.size) (hk : KR w p kv x.kids) :
    Calls Tryd.prog 5 #[exV x kv, .string ⟨name.toArray⟩, .int .i64 n] w fun e w' => e = .returned (.bool true) ∧ Below w.heap.size w w' := by
  obtain ⟨kad, kcap, rfl⟩ := hk.shape
  obtain ⟨w0, hw0⟩ : ∃ w0, w0 = w.alloc (.cells #[.int .i64 x.kind, .int .i64 x.n, .string ⟨x.name.toArray⟩, .slice kad x.kids.length kcap] 25) := ⟨_, rfl⟩
  have hb0 : Below w.heap.size w w0 := by rw [hw0]; exact (Below.refl _ _).alloc (Nat.le_refl _) _
  have hs0 : w0.heap.size = w.heap.size + 1 := by rw [hw0]; simp
  have hv0 : Var4 w0 w.heap.size (.int .i64 x.kind) (.int .i64 x.n) (.string ⟨x.name.toArray⟩) (.slice kad x.kids.length kcap) := by rw [hw0]; exact var4_new w _ _ _ _ _
  have hal := alive_any w0 (hL.below hb0 (by omega)) (tab_below hT hb0 hs) (by omega)
  have hL0 : KLaid w0 := hL.below hb0 (by omega)
  have hK0 := hk.under hb0 (Nat.le_refl _)
  have HB0 : Hid (Below w.heap.size w w0) := hb0
  simp only [exV]
  clear hL hT hk hb0
  go_enter Tryd.func5, Tryd.ntmps5
  go_wp2_with fail
  rw [← hw0]
  clear hw0
  refine hal.mono ?_
  rintro e w1 ⟨rfl, hb1⟩
  have HB1 : Hid (Below w.heap.size w w1) := HB0.out.trans (hb1.mono (by omega))
  by_cases hn1 : n < -1000000
  · go_wp2
    go_ret
    exact ⟨rfl, HB1.out⟩
  by_cases hn2 : 1000000 < n
  · go_wp2
    go_ret
    exact ⟨rfl, HB1.out⟩
  have hL1 := hL0.below hb1 (by omega)
  have hK1 := hK0.under hb1 (Nat.le_refl _)
  have hv1 := hv0.keep (hb1.block _ (by omega))
  have hz1 := hb1.size
  obtain ⟨⟨x0, x1, x2, x3⟩, _⟩ := hv1
  have hev := eval_any x _ _ [] w1 p hL1 (QReads.nil w1) hK1
  simp only [exV] at hev
  cases hV : evalR [] x with
  | error y =>
    rw [hV] at hev
    have hy := evalR_bad _ hV
    have hy1 : (y != 0) = true := by simpa using hy
    simp only [evalV] at hev
    clear hV hal
    go_wp2_with fail
    refine hev.mono ?_
    rintro e w2 ⟨rfl, hb2⟩
    have HB2 : Hid (Below w.heap.size w w2) := HB1.out.trans (hb2.mono HB1.out.size)
    clear hev hb2
    go_wp2
    go_ret
    exact ⟨rfl, HB2.out.alloc HB2.out.size _⟩
  | ok a =>
    rw [hV] at hev
    obtain ⟨hsg, c, hc, hmv⟩ := moves_e name n x a hV
    simp only [evalV, vaV] at hev
    clear hV hal
    go_wp2_with fail
    refine hev.mono ?_
    rintro e w2 ⟨rfl, hb2⟩
    obtain ⟨w3, hw3⟩ : ∃ w3, w3 = w2.alloc (.cells #[.string ⟨a.name.toArray⟩, .int .i64 a.n] 32) := ⟨_, rfl⟩
    have hb3 : Below w2.heap.size w2 w3 := by rw [hw3]; exact (Below.refl _ _).alloc (Nat.le_refl _) _
    have hs3 : w3.heap.size = w2.heap.size + 1 := by rw [hw3]; simp
    have hv3 : Var2 w3 w2.heap.size (.string ⟨a.name.toArray⟩) (.int .i64 a.n) := by rw [hw3]; exact var2_of (heap_alloc_new _ _)
    obtain ⟨w4, hw4⟩ : ∃ w4, w4 = w3.alloc (.cells #[.string ⟨name.toArray⟩, .int .i64 n] 41) := ⟨_, rfl⟩
    have hb4 : Below w3.heap.size w3 w4 := by rw [hw4]; exact (Below.refl _ _).alloc (Nat.le_refl _) _
    have hs4 : w4.heap.size = w3.heap.size + 1 := by rw [hw4]; simp
    have hq4 : QReads w4 (.slice (some ⟨w3.heap.size, 0, none⟩) 1 1) [(name, n)] := by rw [hw4]; exact qreads_one w3 name n 1 _
    have hz2 := hb2.size
    have h24 : Below w2.heap.size w2 w4 := hb3.trans (hb4.mono (by omega))
    have h14 : Below w1.heap.size w1 w4 := hb2.trans (h24.mono hz2)
    have hL4 := hL1.below h14 (by omega)
    have hK4 := hK1.under h14 (Nat.le_refl _)
    have hev2 := eval_any x _ _ [(name, n)] w4 p hL4 hq4 hK4
    rw [hc] at hev2
    simp only [exV, evalV, vaV] at hev2
    rw [hs3] at hev2
    have HEV2 := Lib.hid hev2
    clear hev2
    have hz4 := h14.size
    have y0 := (h14.cell (p := ⟨w.heap.size, 0, none⟩) (by show w.heap.size < w1.heap.size; omega)).trans x0
    have y1 := (h14.cell (p := ⟨w.heap.size, 1, none⟩) (by show w.heap.size < w1.heap.size; omega)).trans x1
    have y2 := (h14.cell (p := ⟨w.heap.size, 2, none⟩) (by show w.heap.size < w1.heap.size; omega)).trans x2
    have y3 := (h14.cell (p := ⟨w.heap.size, 3, none⟩) (by show w.heap.size < w1.heap.size; omega)).trans x3
    have z0 := ((hb2.trans (hb3.mono hz2)).cell (p := ⟨w.heap.size, 0, none⟩) (by show w.heap.size < w1.heap.size; omega)).trans x0
    have z1 := ((hb2.trans (hb3.mono hz2)).cell (p := ⟨w.heap.size, 1, none⟩) (by show w.heap.size < w1.heap.size; omega)).trans x1
    have z2 := ((hb2.trans (hb3.mono hz2)).cell (p := ⟨w.heap.size, 2, none⟩) (by show w.heap.size < w1.heap.size; omega)).trans x2
    have z3 := ((hb2.trans (hb3.mono hz2)).cell (p := ⟨w.heap.size, 3, none⟩) (by show w.heap.size < w1.heap.size; omega)).trans x3
    have HB4 : Hid (Below w.heap.size w w4) := HB1.out.trans (h14.mono HB1.out.size)
    have HV4 : Hid (Var2 w4 w2.heap.size (.string ⟨a.name.toArray⟩) (.int .i64 a.n)) := hv3.keep (hb4.block _ (by omega))
    have HMV : Hid (Moved name n a c) := hmv
    have HSG : Hid (a.n = sgn a.n) := hsg
    have hl2 : w.heap.size < w2.heap.size := by omega
    have HZ4 : Hid (w2.heap.size < w4.heap.size) := by unfold Hid; omega
    clear hev hb2 hb3 hb4 h24 h14 hL4 hK4 hL1 hK1 hq4 hv3 hb1 hL0 hK0 hv0 x0 x1 x2 x3 y0 y1 y2 y3 hmv hsg hc hs3 hs4 hz4 hz2 hz1 hs0
    subst hw4
    subst hw3
    go_wp2_with fail
    clear z0 z1 z2 z3
    refine HEV2.out.mono ?_
    rintro e w5 ⟨rfl, hb5⟩
    obtain ⟨w6, hw6⟩ : ∃ w6, w6 = w5.alloc (.cells #[.string ⟨c.name.toArray⟩, .int .i64 c.n] 32) := ⟨_, rfl⟩
    have hb6 : Below w5.heap.size w5 w6 := by rw [hw6]; exact (Below.refl _ _).alloc (Nat.le_refl _) _
    have hz5 := hb5.size
    have hz6 : w6.heap.size = w5.heap.size + 1 := by rw [hw6]; simp
    have hb46 := hb5.trans (hb6.mono hz5)
    have hz26 := HZ4.out
    have hv6 : Var2 w6 w5.heap.size (.string ⟨c.name.toArray⟩) (.int .i64 c.n) := by rw [hw6]; exact var2_of (heap_alloc_new _ _)
    obtain ⟨⟨a0, a1⟩, _⟩ := HV4.out.keep (hb46.block _ hz26)
    obtain ⟨⟨b0, b1⟩, _⟩ := hv6
    have HB6 : Hid (Below w.heap.size w w6) := HB4.out.trans (hb46.mono HB4.out.size)
    have hl25 : w2.heap.size < w5.heap.size := Nat.lt_of_lt_of_le hz26 hz5
    clear HEV2 hb5 hb6 hb46 hz5 hz26 hz6
    have hsg2 : (a.n != sgn a.n) = false := by simpa using HSG.out
    have HA : Hid (∀ q, Below w6.heap.size w6 q → q.cell? ⟨w2.heap.size, 0, none⟩ = some (.string ⟨a.name.toArray⟩) ∧ q.cell? ⟨w2.heap.size, 1, none⟩ = some (.int .i64 a.n) ∧ q.cell? ⟨w5.heap.size, 0, none⟩ = some (.string ⟨c.name.toArray⟩) ∧ q.cell? ⟨w5.heap.size, 1, none⟩ = some (.int .i64 c.n) ∧ Below w.heap.size w q) := by
      intro q hq
      have h1 : w5.heap.size < w6.heap.size := by rw [hw6]; simp
      have h2 : w2.heap.size < w6.heap.size := by omega
      exact ⟨(hq.cell (by exact h2)).trans a0, (hq.cell (by exact h2)).trans a1, (hq.cell (by exact h1)).trans b0, (hq.cell (by exact h1)).trans b1, HB6.out.trans (hq.mono HB6.out.size)⟩
    subst hw6
    go_wp2
    go_quiet ((go_at_call 14; exact Calls.quiet_of_same (rsigned_same _ _)))
    generalize hwy : World.drewN _ _ = wy
    obtain ⟨d0, d1, e0, e1, hby⟩ := HA.out wy (by subst hwy; exact Go.Joins.below_draws _ _ _)
    have HBY : Hid (Below w.heap.size w wy) := hby
    have HM := HMV.out
    unfold Moved at HM
    clear hwy hby a0 a1 b0 b1 HA HB6 HV4 HB4 HZ4 HMV hl25 hl2
    by_cases h1 : name = []
    · rw [if_pos h1] at HM
      subst h1
      by_cases h2 : a.name = []
      · have q1 : (a.name == []) = true := by simpa using h2
        have q2 : (c.name == a.name) = true := by simpa using HM
        clear HM h2
        go_wp2
        go_ret
        exact ⟨rfl, HBY.out⟩
      · have q1 : (a.name == []) = false := by simpa using h2
        have q2 : (c.name == a.name) = true := by simpa using HM
        clear HM h2
        go_wp2
        go_ret
        exact ⟨rfl, HBY.out⟩
    · rw [if_neg h1] at HM
      by_cases h2 : a.name = name
      · rw [if_pos h2] at HM
        subst HM
        have q1 : (a.name == name) = true := by simpa using h2
        have q3 : (name == []) = false := by simpa using h1
        have q4 : sgn (wrap64 (a.n + n)) = sgn (a.n + n) := sgn_wrap _
        clear h1 h2
        simp only at e0 e1
        go_wp2
        go_quiet ((go_at_call 14; exact Calls.quiet_of_same (rsigned_same _ _)))
        generalize hwz : World.drewN _ _ = wz
        have HBZ : Hid (Below w.heap.size w wz) := HBY.out.trans ((by subst hwz; exact Go.Joins.below_draws _ _ _ : Below w.heap.size wy wz))
        clear hwz
        go_wp2
        go_ret
        exact ⟨rfl, HBZ.out⟩
      · rw [if_neg h2] at HM
        subst HM
        have q1 : (c.name == name) = false := by simpa using h2
        clear h1 h2
        go_wp2
        go_ret
        exact ⟨rfl, HBY.out⟩

end Go.Proofs.YtibenegbjpoclabDoor
