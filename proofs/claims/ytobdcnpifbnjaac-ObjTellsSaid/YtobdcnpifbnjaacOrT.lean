/- The contract of the document's own reader's T. -/
import Derived.Test.YtobdcnpifbnjaacOrB
namespace Go.Proofs.Ytobdcnpifbnjaac
open Go.RowKit

/-- What T tells. -/
def tVal (l : List UInt8) (c n : Nat) (bad : Bool) : List UInt8 := if bad = true ∨ l.length < c + n then [] else (l.drop c).take n

/-- Bytes that lie somewhere appended onto an empty row of one's own. -/
theorem app_none {w : World} {base g : Nat} (hg : w.heap[g]? = some (.cells #[] 5 (0, 0))) (hb : base ≤ g) (hb2 : base ≤ w.heap.size) (ad : Option Addr) (m c : Nat) (news : List UInt8) (hm : news.length = m) (hsrc : SrcOf w ad m (bcells news)) (hl : m ≤ 140737488355328) :
    ∃ v' w', (∀ ty, (Builtin.append_ #[22, 22] ty #[.slice (some ⟨g, 0, none⟩) 0 0, .slice ad m c]).run Try.prog w = .ok v' w') ∧ Out w' base v' news ∧ w.grownBy w' (some g) := by
  have ho : Out w base (.slice (some ⟨g, 0, none⟩) 0 0) [] := ⟨⟨rfl, .inr ⟨g, 0, #[], rfl, hb, hg, Nat.le_refl _, Nat.zero_le _, rfl, rfl⟩⟩, hb2⟩
  cases ad with
  | some a =>
    have := app_bytes ho a m c news hm (fun j u hj => by
      by_cases h0 : 0 < m
      · obtain ⟨b, o, e, _, hc⟩ := hsrc h0
        cases e
        rw [addr_add]
        exact hc j u hj
      · have : news = [] := List.eq_nil_of_length_eq_zero (by omega)
        rw [this] at hj
        simp [bcells] at hj) (by simpa using hl)
    simpa [Value.ownBlock] using this
  | none =>
    have h0 : m = 0 := by
      by_cases h : 0 < m
      · obtain ⟨_, _, e, _⟩ := hsrc h
        cases e
      · omega
    subst h0
    have hn : news = [] := List.eq_nil_of_length_eq_zero (by omega)
    subst hn
    obtain ⟨i, hi, _, hz1, _⟩ := info_parts infoB
    refine ⟨_, w, fun ty => ?_, ho, World.grownBy.refl w _⟩
    have := run_append_room_src (P := Try.prog) w 22 22 ty 5 i Try.underlying22 hi g 0 0 0 (.slice none 0 c) 0 [] (Src.ofNil w Try.underlying22 c) (by omega) (by simp) (by simp)
    simpa [World.setCells] using this

theorem src_sub {W : World} {a : Addr} {cap c n : Nat} {l : List UInt8} (h : OBytes W (.slice (some a) l.length cap) l) (hk : c + n ≤ l.length) : SrcOf W (some (a.add c)) n (bcells ((l.drop c).take n)) := fun h0 => by
  obtain ⟨ad, cap', e, _, hc⟩ := h
  cases e
  obtain ⟨b, o, e, hb, hcs⟩ := hc (by omega)
  cases e
  refine ⟨b, o + c, by rw [addr_add], hb, fun j v hj => ?_⟩
  obtain ⟨hj1, hj2⟩ := List.getElem?_eq_some_iff.1 hj
  have hj3 : j < n := by simp [bcells] at hj1; omega
  rw [show o + c + j = o + (c + j) by omega, hcs (c + j) (by omega), ← hj2]
  simp [bcells]

set_option maxHeartbeats 8000000 in
set_option maxRecDepth 100000 in
theorem rdT_any (Q : Nat) (l : List UInt8) (c n : Nat) (bad : Bool) (w : World) (h : RdS w Q l c bad) (hn2 : n ≤ 4611686018427387904) (hfew2 : l.length ≤ 140737488355328) :
    Calls Try.prog 28 #[.pointer (some ⟨Q, 0, none⟩), .int .i64 (n : Int)] w fun e w' => ∃ v, e = .returned v ∧ Out w' w.heap.size v (tVal l c n bad) ∧ RdS w' Q l (nAt l c n bad) (nBad l c n bad) ∧ w.grownBy w' (some Q) := by
  obtain ⟨ad, cap, c0, hcap, hsrc⟩ := h.by'
  have HSRC := Lib.hid hsrc
  clear hsrc
  have c1 := h.c1
  have c2 := h.c2
  have hle := h.le
  have hlt := h.lt
  have HD : Hid (∀ n, RdS (w.drewN n) Q l c bad ∧ w.grownBy (w.drewN n) (some Q) ∧ (w.drewN n).cell? ⟨Q, 0, none⟩ = some (.slice ad l.length cap)) := fun n => ⟨h.draws n, ogdraws _ _ _, by rw [World.cell?_drewN]; exact c0⟩
  clear h
  have bad_end : ∀ nq : Nat, ∃ w1 : World, w1 = w.drewN nq ∧ Hid (RdS w1 Q l c bad ∧ w.grownBy w1 (some Q)) ∧ w1.cell? ⟨Q, 2, none⟩ = some (.bool bad) ∧ w1.frozen? ⟨Q, 2, none⟩ = false := fun nq => ⟨_, rfl, ⟨(HD.out nq).1, (HD.out nq).2.1⟩, (HD.out nq).1.c2, (HD.out nq).1.f2⟩
  have HE := Lib.hid bad_end
  clear bad_end
  cases bad with
  | true =>
    go_enter Try.func28, Try.ntmps28
    go_wp2
    go_quiet (fail)
    obtain ⟨w1, hw1, HW1, g2, k2⟩ := HE.out nq
    rw [← hw1]
    clear hw1 c0 c1 c2
    go_wp2
    go_ret
    exact ⟨_, rfl, ⟨by simpa [tVal] using (show World.ownsRow _ _ _ _ _ _ (bcells []) from World.ownsRow_nil _ _ _ _), by have := HW1.out.2.size; simpa using this⟩, by simpa [nAt, nBad] using HW1.out.1.setBad, ogtrans HW1.out.2 (ogset _ _ _ _)⟩
  | false =>
    by_cases hk : l.length < c + n
    · have hk1 : (l.length : Int) - c < n := by omega
      go_enter Try.func28, Try.ntmps28
      go_wp2
      go_quiet (fail)
      obtain ⟨w1, hw1, HW1, g2, k2⟩ := HE.out nq
      rw [← hw1]
      clear hw1 c0 c1 c2
      go_wp2
      go_ret
      exact ⟨_, rfl, ⟨by simpa [tVal, hk] using (show World.ownsRow _ _ _ _ _ _ (bcells []) from World.ownsRow_nil _ _ _ _), by have := HW1.out.2.size; simpa using this⟩, by simpa [nAt, nBad, hk] using HW1.out.1.setBad, ogtrans HW1.out.2 (ogset _ _ _ _)⟩
    · have hk1 : ¬ (l.length : Int) - c < n := by omega
      have HEND : Hid (∀ w3 v, Out w3 w.heap.size v ((l.drop c).take n) → RdS w3 Q l (c + n) false → w.grownBy w3 (some Q) → Out w3 w.heap.size v (tVal l c n false) ∧ RdS w3 Q l (nAt l c n false) (nBad l c n false) ∧ w.grownBy w3 (some Q)) := fun w3 v h1 h2 h3 => by
        have e1 : tVal l c n false = (l.drop c).take n := by unfold tVal; rw [if_neg (by simp [hk])]
        have e2 : nAt l c n false = c + n := by unfold nAt; rw [if_neg (by simp [hk])]
        have e3 : nBad l c n false = false := by unfold nBad; simp [hk]
        rw [e1, e2, e3]
        exact ⟨h1, h2, h3⟩
      have HS : Hid (∀ nq, ∃ w1 : World, w1 = w.drewN nq ∧ w1.cell? ⟨Q, 1, none⟩ = some (.int .i64 c) ∧ w1.frozen? ⟨Q, 1, none⟩ = false ∧ Hid ((w1.setCell ⟨Q, 1, none⟩ (.int .i64 ((c : Int) + n))).drew.cell? ⟨Q, 0, none⟩ = some (.slice ad l.length cap) ∧ (w1.setCell ⟨Q, 1, none⟩ (.int .i64 ((c : Int) + n))).drew.cell? ⟨Q, 1, none⟩ = some (.int .i64 ((c : Int) + n))) ∧
          Hid (RdS (w1.setCell ⟨Q, 1, none⟩ (.int .i64 ((c : Int) + n))).drew Q l (c + n) false ∧ w.grownBy (w1.setCell ⟨Q, 1, none⟩ (.int .i64 ((c : Int) + n))).drew (some Q))) := fun nq => by
        obtain ⟨hr, hg, h0⟩ := HD.out nq
        have hset := hr.setAt (c' := c + n) (by omega)
        have e0 : ((w.drewN nq).setCell ⟨Q, 1, none⟩ (.int .i64 ((c : Int) + n))).cell? ⟨Q, 0, none⟩ = some (.slice ad l.length cap) := by rw [World.cell?_setCell_other _ _ _ _ (by intro e; cases e)]; exact h0
        refine ⟨_, rfl, hr.c1, hr.f1, ⟨by rw [World.cell?_drew]; exact e0, by rw [World.cell?_drew]; exact hset.c1⟩, hset.below ((Below.refl _ _).drew (B := Q + 1)) (by omega), ?_⟩
        exact ogtrans (ogtrans hg (ogset _ _ _ _)) (ogbelow (B := ((w.drewN nq).setCell ⟨Q, 1, none⟩ (.int .i64 ((c : Int) + n))).heap.size) _ (Below.refl _ _).drew (Nat.le_refl _))
      clear HE HD
      go_enter Try.func28, Try.ntmps28
      go_wp2
      go_quiet (fail)
      obtain ⟨w1, hw1, g1, k1, HCC, HRR⟩ := HS.out nq
      rw [← hw1]
      clear hw1 c0 c1 c2 HS
      go_wp2_with fail
      have hS0 := HCC.out
      have hob : OBytes (w1.setCell ⟨Q, 1, none⟩ (.int .i64 ((c : Int) + n))).drew (.slice ad l.length cap) l := by
        obtain ⟨v, hv, ho⟩ := HRR.out.1.bytes
        rw [hS0.1] at hv
        cases hv
        exact ho
      have HOB := Lib.hid hob
      have hn1 : (0 : Int) ≤ n := by omega
      have hcc0 : (c : Int) + n ≤ cap := by omega
      clear hob HSRC HCC
      refine wp_region_noPanic ?_
      refine wp_region_held_drew (S := fun W => W.cell? ⟨Q, 0, none⟩ = some (.slice ad l.length cap) ∧ W.cell? ⟨Q, 1, none⟩ = some (.int .i64 ((c : Int) + n))) (by kernel_rfl) hS0 (fun hHeld => ?_)
      clear hS0
      generalize hW0 : (w1.setCell ⟨Q, 1, none⟩ (.int .i64 ((c : Int) + n))).drew = W0 at *
      clear hW0 g1 k1
      have hWQ : Q < W0.heap.size := HRR.out.1.lt
      have hgw := HRR.out.2.size
      cases ad with
      | none =>
        have HSRC2 : Hid (SrcOf W0 none n (bcells ((l.drop c).take n))) := fun h => by
          obtain ⟨_, _, e, _, hc⟩ := HOB.out
          cases e
          obtain ⟨_, _, e, _⟩ := hc (by omega)
          cases e
        refine take_at 1 36 (v := ?_) rfl rfl (by kernel_rfl) (by kernel_rfl) (by kernel_rfl) (fun _ _ _ h => h) rfl ?_ hHeld ?_
        rotate_left
        · intro w hSw
          go_simp
          try with_reducible rfl
        simp only [List.setIfInBounds_toArray, List.set_cons_zero, List.set_cons_succ]
        refine take_at 2 37 (v := ?_) rfl rfl (by kernel_rfl) (by kernel_rfl) (by kernel_rfl) (fun _ _ _ h => h) rfl ?_ hHeld ?_
        rotate_left
        · intro w hSw
          go_simp
          try with_reducible rfl
        simp only [List.setIfInBounds_toArray, List.set_cons_zero, List.set_cons_succ]
        refine take_at 3 38 (v := ?_) rfl rfl (by kernel_rfl) (by kernel_rfl) (by kernel_rfl) (fun _ _ _ h => h) rfl ?_ hHeld ?_
        rotate_left
        · intro w hSw
          go_simp
          try with_reducible rfl
        simp only [List.setIfInBounds_toArray, List.set_cons_zero, List.set_cons_succ]
        refine take_at 4 39 (v := ?_) rfl rfl (by kernel_rfl) (by kernel_rfl) (by kernel_rfl) (fun _ _ _ h => h) rfl ?_ hHeld ?_
        rotate_left
        · intro w hSw
          obtain ⟨s0, s1⟩ := hSw
          go_simp
          try with_reducible rfl
        simp only [List.setIfInBounds_toArray, List.set_cons_zero, List.set_cons_succ]
        refine take_at 5 40 (v := ?_) rfl rfl (by kernel_rfl) (by kernel_rfl) (by kernel_rfl) (fun _ _ _ h => h) rfl ?_ hHeld ?_
        rotate_left
        · intro w hSw
          go_simp
          try with_reducible rfl
        simp only [List.setIfInBounds_toArray, List.set_cons_zero, List.set_cons_succ]
        refine take_at 6 41 (v := ?_) rfl rfl (by kernel_rfl) (by kernel_rfl) (by kernel_rfl) (fun _ _ _ h => h) rfl ?_ hHeld ?_
        rotate_left
        · intro w hSw
          go_simp
          try with_reducible rfl
        simp only [List.setIfInBounds_toArray, List.set_cons_zero, List.set_cons_succ]
        refine take_at 7 42 (v := ?_) rfl rfl (by kernel_rfl) (by kernel_rfl) (by kernel_rfl) (fun _ _ _ h => h) rfl ?_ hHeld ?_
        rotate_left
        · intro w hSw
          go_simp
          try with_reducible rfl
        simp only [List.setIfInBounds_toArray, List.set_cons_zero, List.set_cons_succ]
        refine take_at 8 43 (v := ?_) rfl rfl (by kernel_rfl) (by kernel_rfl) (by kernel_rfl) (fun _ _ _ h => h) rfl ?_ hHeld ?_
        rotate_left
        · intro w hSw
          obtain ⟨s0, s1⟩ := hSw
          go_simp
          try with_reducible rfl
        simp only [List.setIfInBounds_toArray, List.set_cons_zero, List.set_cons_succ]
        refine take_at 9 44 (v := ?_) rfl rfl (by kernel_rfl) (by kernel_rfl) (by kernel_rfl) (fun _ _ _ h => h) rfl ?_ hHeld ?_
        rotate_left
        · intro w hSw
          go_simp
          try with_reducible rfl
        simp only [List.setIfInBounds_toArray, List.set_cons_zero, List.set_cons_succ]
        refine take_at 10 45 (v := ?_) rfl rfl (by kernel_rfl) (by kernel_rfl) (by kernel_rfl) (fun _ _ _ h => h) rfl ?_ hHeld ?_
        rotate_left
        · intro w hSw
          have hwr : IntKind.i64.wrap (c : Int) = c := by rw [IntKind.wrap_i64]; omega
          go_simp
          try with_reducible rfl
        simp only [List.setIfInBounds_toArray, List.set_cons_zero, List.set_cons_succ]
        refine take_at 11 46 (v := ?_) rfl rfl (by kernel_rfl) (by kernel_rfl) (by kernel_rfl) (fun _ _ _ h => h) rfl ?_ hHeld ?_
        rotate_left
        · intro w hSw
          go_simp
          try with_reducible rfl
        simp only [List.setIfInBounds_toArray, List.set_cons_zero, List.set_cons_succ]
        refine take_at 12 47 (v := ?_) rfl rfl (by kernel_rfl) (by kernel_rfl) (by kernel_rfl) (fun _ _ _ h => h) rfl ?_ hHeld ?_
        rotate_left
        · intro w hSw
          go_simp
          try with_reducible rfl
        simp only [List.setIfInBounds_toArray, List.set_cons_zero, List.set_cons_succ]
        refine take_at 13 48 (v := ?_) rfl rfl (by kernel_rfl) (by kernel_rfl) (by kernel_rfl) (fun _ _ _ h => h) rfl ?_ hHeld ?_
        rotate_left
        · intro w hSw
          go_simp
          try with_reducible rfl
        simp only [List.setIfInBounds_toArray, List.set_cons_zero, List.set_cons_succ]
        refine take_at 14 49 (v := ?_) rfl rfl (by kernel_rfl) (by kernel_rfl) (by kernel_rfl) (fun _ _ _ h => h) rfl ?_ hHeld ?_
        rotate_left
        · intro w hSw
          obtain ⟨s0, s1⟩ := hSw
          go_simp
          try with_reducible rfl
        simp only [List.setIfInBounds_toArray, List.set_cons_zero, List.set_cons_succ]
        refine take_at 15 50 (v := ?_) rfl rfl (by kernel_rfl) (by kernel_rfl) (by kernel_rfl) (fun _ _ _ h => h) rfl ?_ hHeld ?_
        rotate_left
        · intro w hSw
          have r0 : (0 : Int) ≤ (c : Int) := by omega
          have r1 : (c : Int) ≤ (c : Int) + n := by omega
          have r3 : ((c : Int) + n).toNat = c + n := by omega
          go_simp
          try with_reducible rfl
        simp only [List.setIfInBounds_toArray, List.set_cons_zero, List.set_cons_succ]
        refine wpAnyH_ready (rs := [0]) (by kernel_rfl) (by simp) ?_
        refine AllReadyH.cons rfl (fun K hK => ?_) AllReadyH.nil
        go_simp
        have hbA := oalloc W0 (.cells #[] 5)
        obtain ⟨v3, w3, happ, ho3, hg3⟩ := app_none (base := w.heap.size) (heap_alloc_new W0 (.cells #[] 5)) hgw (by simp; omega) none n (cap - c) ((l.drop c).take n) (by simp; omega) (HSRC2.out.below hbA (Nat.le_refl _)) (by omega)
        have HA := Lib.hid happ
        have HRD : Hid (RdS w3 Q l (c + n) false ∧ w.grownBy w3 (some Q)) := ⟨(HRR.out.1.below hbA hWQ).keep hg3.size fun b hb => hg3.block b (by simp; omega) (by simp; omega), ogfar (ogtrans HRR.out.2 (World.grownBy_alloc _ _ _)) hg3 (fun j hj => by cases hj; exact hgw)⟩
        have hS1 : (W0.alloc (.cells #[] 5)).cell? ⟨Q, 0, none⟩ = some (.slice none l.length cap) ∧ (W0.alloc (.cells #[] 5)).cell? ⟨Q, 1, none⟩ = some (.int .i64 ((c : Int) + n)) := ⟨(hbA.cell (by exact hWQ)).trans hHeld.1, (hbA.cell (by exact hWQ)).trans hHeld.2⟩
        have hS2 : w3.cell? ⟨Q, 0, none⟩ = some (.slice none l.length cap) ∧ w3.cell? ⟨Q, 1, none⟩ = some (.int .i64 ((c : Int) + n)) := ⟨hg3.cell hS1.1 (by simp; omega), hg3.cell hS1.2 (by simp; omega)⟩
        refine hK.out _ _ hS1 (fun _ => ?_)
        clear hK K happ hg3 hbA
        refine wpAnyH_ready (rs := [16]) (by kernel_rfl) (by simp) ?_
        refine AllReadyH.cons rfl (fun K hK => ?_) AllReadyH.nil
        refine step_app_eq (by rfl) 51 (by rfl) _ _ _ _ (by rfl) _ _ (by rfl) (by rfl) HA.out ?_
        simp only [List.setIfInBounds_toArray, List.set_cons_zero, List.set_cons_succ]
        refine hK.out _ _ hS2 (fun _ => ?_)
        clear hK K
        refine wpAnyH_ready (rs := [17]) (by kernel_rfl) (by simp) ?_
        refine AllReadyH.cons rfl (fun K hK => ?_) AllReadyH.nil
        go_simp
        refine hK.out _ _ hS2 (fun _ => ?_)
        clear hK K
        refine wpAnyH_done (by kernel_rfl) ?_ _
        refine NoPanic.normal ?_
        clear hHeld hS1 hS2 HA
        go_wp2
        go_ret
        exact ⟨_, rfl, HEND.out _ _ ho3 HRD.out.1 HRD.out.2⟩
      | some a =>
        by_cases hcc : cap = c
        · have hcc2 := hcc.symm
          clear hcc
          subst hcc2
          have HSRC2 : Hid (SrcOf W0 (some a) n (bcells ((l.drop c).take n))) := fun h => absurd h (by omega)
          refine take_at 1 36 (v := ?_) rfl rfl (by kernel_rfl) (by kernel_rfl) (by kernel_rfl) (fun _ _ _ h => h) rfl ?_ hHeld ?_
          rotate_left
          · intro w hSw
            go_simp
            try with_reducible rfl
          simp only [List.setIfInBounds_toArray, List.set_cons_zero, List.set_cons_succ]
          refine take_at 2 37 (v := ?_) rfl rfl (by kernel_rfl) (by kernel_rfl) (by kernel_rfl) (fun _ _ _ h => h) rfl ?_ hHeld ?_
          rotate_left
          · intro w hSw
            go_simp
            try with_reducible rfl
          simp only [List.setIfInBounds_toArray, List.set_cons_zero, List.set_cons_succ]
          refine take_at 3 38 (v := ?_) rfl rfl (by kernel_rfl) (by kernel_rfl) (by kernel_rfl) (fun _ _ _ h => h) rfl ?_ hHeld ?_
          rotate_left
          · intro w hSw
            go_simp
            try with_reducible rfl
          simp only [List.setIfInBounds_toArray, List.set_cons_zero, List.set_cons_succ]
          refine take_at 4 39 (v := ?_) rfl rfl (by kernel_rfl) (by kernel_rfl) (by kernel_rfl) (fun _ _ _ h => h) rfl ?_ hHeld ?_
          rotate_left
          · intro w hSw
            obtain ⟨s0, s1⟩ := hSw
            go_simp
            try with_reducible rfl
          simp only [List.setIfInBounds_toArray, List.set_cons_zero, List.set_cons_succ]
          refine take_at 5 40 (v := ?_) rfl rfl (by kernel_rfl) (by kernel_rfl) (by kernel_rfl) (fun _ _ _ h => h) rfl ?_ hHeld ?_
          rotate_left
          · intro w hSw
            go_simp
            try with_reducible rfl
          simp only [List.setIfInBounds_toArray, List.set_cons_zero, List.set_cons_succ]
          refine take_at 6 41 (v := ?_) rfl rfl (by kernel_rfl) (by kernel_rfl) (by kernel_rfl) (fun _ _ _ h => h) rfl ?_ hHeld ?_
          rotate_left
          · intro w hSw
            go_simp
            try with_reducible rfl
          simp only [List.setIfInBounds_toArray, List.set_cons_zero, List.set_cons_succ]
          refine take_at 7 42 (v := ?_) rfl rfl (by kernel_rfl) (by kernel_rfl) (by kernel_rfl) (fun _ _ _ h => h) rfl ?_ hHeld ?_
          rotate_left
          · intro w hSw
            go_simp
            try with_reducible rfl
          simp only [List.setIfInBounds_toArray, List.set_cons_zero, List.set_cons_succ]
          refine take_at 8 43 (v := ?_) rfl rfl (by kernel_rfl) (by kernel_rfl) (by kernel_rfl) (fun _ _ _ h => h) rfl ?_ hHeld ?_
          rotate_left
          · intro w hSw
            obtain ⟨s0, s1⟩ := hSw
            go_simp
            try with_reducible rfl
          simp only [List.setIfInBounds_toArray, List.set_cons_zero, List.set_cons_succ]
          refine take_at 9 44 (v := ?_) rfl rfl (by kernel_rfl) (by kernel_rfl) (by kernel_rfl) (fun _ _ _ h => h) rfl ?_ hHeld ?_
          rotate_left
          · intro w hSw
            go_simp
            try with_reducible rfl
          simp only [List.setIfInBounds_toArray, List.set_cons_zero, List.set_cons_succ]
          refine take_at 10 45 (v := ?_) rfl rfl (by kernel_rfl) (by kernel_rfl) (by kernel_rfl) (fun _ _ _ h => h) rfl ?_ hHeld ?_
          rotate_left
          · intro w hSw
            have hwr : IntKind.i64.wrap (c : Int) = c := by rw [IntKind.wrap_i64]; omega
            go_simp
            try with_reducible rfl
          simp only [List.setIfInBounds_toArray, List.set_cons_zero, List.set_cons_succ]
          refine take_at 11 46 (v := ?_) rfl rfl (by kernel_rfl) (by kernel_rfl) (by kernel_rfl) (fun _ _ _ h => h) rfl ?_ hHeld ?_
          rotate_left
          · intro w hSw
            go_simp
            try with_reducible rfl
          simp only [List.setIfInBounds_toArray, List.set_cons_zero, List.set_cons_succ]
          refine take_at 12 47 (v := ?_) rfl rfl (by kernel_rfl) (by kernel_rfl) (by kernel_rfl) (fun _ _ _ h => h) rfl ?_ hHeld ?_
          rotate_left
          · intro w hSw
            go_simp
            try with_reducible rfl
          simp only [List.setIfInBounds_toArray, List.set_cons_zero, List.set_cons_succ]
          refine take_at 13 48 (v := ?_) rfl rfl (by kernel_rfl) (by kernel_rfl) (by kernel_rfl) (fun _ _ _ h => h) rfl ?_ hHeld ?_
          rotate_left
          · intro w hSw
            go_simp
            try with_reducible rfl
          simp only [List.setIfInBounds_toArray, List.set_cons_zero, List.set_cons_succ]
          refine take_at 14 49 (v := ?_) rfl rfl (by kernel_rfl) (by kernel_rfl) (by kernel_rfl) (fun _ _ _ h => h) rfl ?_ hHeld ?_
          rotate_left
          · intro w hSw
            obtain ⟨s0, s1⟩ := hSw
            go_simp
            try with_reducible rfl
          simp only [List.setIfInBounds_toArray, List.set_cons_zero, List.set_cons_succ]
          refine take_at 15 50 (v := ?_) rfl rfl (by kernel_rfl) (by kernel_rfl) (by kernel_rfl) (fun _ _ _ h => h) rfl ?_ hHeld ?_
          rotate_left
          · intro w hSw
            have r0 : (0 : Int) ≤ (c : Int) := by omega
            have r1 : (c : Int) ≤ (c : Int) + n := by omega
            have r3 : ((c : Int) + n).toNat = c + n := by omega
            go_simp
            try with_reducible rfl
          simp only [List.setIfInBounds_toArray, List.set_cons_zero, List.set_cons_succ]
          refine wpAnyH_ready (rs := [0]) (by kernel_rfl) (by simp) ?_
          refine AllReadyH.cons rfl (fun K hK => ?_) AllReadyH.nil
          go_simp
          have hbA := oalloc W0 (.cells #[] 5)
          obtain ⟨v3, w3, happ, ho3, hg3⟩ := app_none (base := w.heap.size) (heap_alloc_new W0 (.cells #[] 5)) hgw (by simp; omega) (some a) n 0 ((l.drop c).take n) (by simp; omega) (HSRC2.out.below hbA (Nat.le_refl _)) (by omega)
          have HA := Lib.hid happ
          have HRD : Hid (RdS w3 Q l (c + n) false ∧ w.grownBy w3 (some Q)) := ⟨(HRR.out.1.below hbA hWQ).keep hg3.size fun b hb => hg3.block b (by simp; omega) (by simp; omega), ogfar (ogtrans HRR.out.2 (World.grownBy_alloc _ _ _)) hg3 (fun j hj => by cases hj; exact hgw)⟩
          have hS1 : (W0.alloc (.cells #[] 5)).cell? ⟨Q, 0, none⟩ = some (.slice (some a) l.length c) ∧ (W0.alloc (.cells #[] 5)).cell? ⟨Q, 1, none⟩ = some (.int .i64 ((c : Int) + n)) := ⟨(hbA.cell (by exact hWQ)).trans hHeld.1, (hbA.cell (by exact hWQ)).trans hHeld.2⟩
          have hS2 : w3.cell? ⟨Q, 0, none⟩ = some (.slice (some a) l.length c) ∧ w3.cell? ⟨Q, 1, none⟩ = some (.int .i64 ((c : Int) + n)) := ⟨hg3.cell hS1.1 (by simp; omega), hg3.cell hS1.2 (by simp; omega)⟩
          refine hK.out _ _ hS1 (fun _ => ?_)
          clear hK K happ hg3 hbA
          refine wpAnyH_ready (rs := [16]) (by kernel_rfl) (by simp) ?_
          refine AllReadyH.cons rfl (fun K hK => ?_) AllReadyH.nil
          refine step_app_eq (by rfl) 51 (by rfl) _ _ _ _ (by rfl) _ _ (by rfl) (by rfl) HA.out ?_
          simp only [List.setIfInBounds_toArray, List.set_cons_zero, List.set_cons_succ]
          refine hK.out _ _ hS2 (fun _ => ?_)
          clear hK K
          refine wpAnyH_ready (rs := [17]) (by kernel_rfl) (by simp) ?_
          refine AllReadyH.cons rfl (fun K hK => ?_) AllReadyH.nil
          go_simp
          refine hK.out _ _ hS2 (fun _ => ?_)
          clear hK K
          refine wpAnyH_done (by kernel_rfl) ?_ _
          refine NoPanic.normal ?_
          clear hHeld hS1 hS2 HA
          go_wp2
          go_ret
          exact ⟨_, rfl, HEND.out _ _ ho3 HRD.out.1 HRD.out.2⟩
        · have HSRC2 : Hid (SrcOf W0 (some (a.add c)) n (bcells ((l.drop c).take n))) := src_sub HOB.out (by omega)
          refine take_at 1 36 (v := ?_) rfl rfl (by kernel_rfl) (by kernel_rfl) (by kernel_rfl) (fun _ _ _ h => h) rfl ?_ hHeld ?_
          rotate_left
          · intro w hSw
            go_simp
            try with_reducible rfl
          simp only [List.setIfInBounds_toArray, List.set_cons_zero, List.set_cons_succ]
          refine take_at 2 37 (v := ?_) rfl rfl (by kernel_rfl) (by kernel_rfl) (by kernel_rfl) (fun _ _ _ h => h) rfl ?_ hHeld ?_
          rotate_left
          · intro w hSw
            go_simp
            try with_reducible rfl
          simp only [List.setIfInBounds_toArray, List.set_cons_zero, List.set_cons_succ]
          refine take_at 3 38 (v := ?_) rfl rfl (by kernel_rfl) (by kernel_rfl) (by kernel_rfl) (fun _ _ _ h => h) rfl ?_ hHeld ?_
          rotate_left
          · intro w hSw
            go_simp
            try with_reducible rfl
          simp only [List.setIfInBounds_toArray, List.set_cons_zero, List.set_cons_succ]
          refine take_at 4 39 (v := ?_) rfl rfl (by kernel_rfl) (by kernel_rfl) (by kernel_rfl) (fun _ _ _ h => h) rfl ?_ hHeld ?_
          rotate_left
          · intro w hSw
            obtain ⟨s0, s1⟩ := hSw
            go_simp
            try with_reducible rfl
          simp only [List.setIfInBounds_toArray, List.set_cons_zero, List.set_cons_succ]
          refine take_at 5 40 (v := ?_) rfl rfl (by kernel_rfl) (by kernel_rfl) (by kernel_rfl) (fun _ _ _ h => h) rfl ?_ hHeld ?_
          rotate_left
          · intro w hSw
            go_simp
            try with_reducible rfl
          simp only [List.setIfInBounds_toArray, List.set_cons_zero, List.set_cons_succ]
          refine take_at 6 41 (v := ?_) rfl rfl (by kernel_rfl) (by kernel_rfl) (by kernel_rfl) (fun _ _ _ h => h) rfl ?_ hHeld ?_
          rotate_left
          · intro w hSw
            go_simp
            try with_reducible rfl
          simp only [List.setIfInBounds_toArray, List.set_cons_zero, List.set_cons_succ]
          refine take_at 7 42 (v := ?_) rfl rfl (by kernel_rfl) (by kernel_rfl) (by kernel_rfl) (fun _ _ _ h => h) rfl ?_ hHeld ?_
          rotate_left
          · intro w hSw
            go_simp
            try with_reducible rfl
          simp only [List.setIfInBounds_toArray, List.set_cons_zero, List.set_cons_succ]
          refine take_at 8 43 (v := ?_) rfl rfl (by kernel_rfl) (by kernel_rfl) (by kernel_rfl) (fun _ _ _ h => h) rfl ?_ hHeld ?_
          rotate_left
          · intro w hSw
            obtain ⟨s0, s1⟩ := hSw
            go_simp
            try with_reducible rfl
          simp only [List.setIfInBounds_toArray, List.set_cons_zero, List.set_cons_succ]
          refine take_at 9 44 (v := ?_) rfl rfl (by kernel_rfl) (by kernel_rfl) (by kernel_rfl) (fun _ _ _ h => h) rfl ?_ hHeld ?_
          rotate_left
          · intro w hSw
            go_simp
            try with_reducible rfl
          simp only [List.setIfInBounds_toArray, List.set_cons_zero, List.set_cons_succ]
          refine take_at 10 45 (v := ?_) rfl rfl (by kernel_rfl) (by kernel_rfl) (by kernel_rfl) (fun _ _ _ h => h) rfl ?_ hHeld ?_
          rotate_left
          · intro w hSw
            have hwr : IntKind.i64.wrap (c : Int) = c := by rw [IntKind.wrap_i64]; omega
            go_simp
            try with_reducible rfl
          simp only [List.setIfInBounds_toArray, List.set_cons_zero, List.set_cons_succ]
          refine take_at 11 46 (v := ?_) rfl rfl (by kernel_rfl) (by kernel_rfl) (by kernel_rfl) (fun _ _ _ h => h) rfl ?_ hHeld ?_
          rotate_left
          · intro w hSw
            go_simp
            try with_reducible rfl
          simp only [List.setIfInBounds_toArray, List.set_cons_zero, List.set_cons_succ]
          refine take_at 12 47 (v := ?_) rfl rfl (by kernel_rfl) (by kernel_rfl) (by kernel_rfl) (fun _ _ _ h => h) rfl ?_ hHeld ?_
          rotate_left
          · intro w hSw
            go_simp
            try with_reducible rfl
          simp only [List.setIfInBounds_toArray, List.set_cons_zero, List.set_cons_succ]
          refine take_at 13 48 (v := ?_) rfl rfl (by kernel_rfl) (by kernel_rfl) (by kernel_rfl) (fun _ _ _ h => h) rfl ?_ hHeld ?_
          rotate_left
          · intro w hSw
            go_simp
            try with_reducible rfl
          simp only [List.setIfInBounds_toArray, List.set_cons_zero, List.set_cons_succ]
          refine take_at 14 49 (v := ?_) rfl rfl (by kernel_rfl) (by kernel_rfl) (by kernel_rfl) (fun _ _ _ h => h) rfl ?_ hHeld ?_
          rotate_left
          · intro w hSw
            obtain ⟨s0, s1⟩ := hSw
            go_simp
            try with_reducible rfl
          simp only [List.setIfInBounds_toArray, List.set_cons_zero, List.set_cons_succ]
          refine take_at 15 50 (v := ?_) rfl rfl (by kernel_rfl) (by kernel_rfl) (by kernel_rfl) (fun _ _ _ h => h) rfl ?_ hHeld ?_
          rotate_left
          · intro w hSw
            have r0 : (0 : Int) ≤ (c : Int) := by omega
            have r1 : (c : Int) ≤ (c : Int) + n := by omega
            have r3 : ((c : Int) + n).toNat = c + n := by omega
            go_simp
            try with_reducible rfl
          simp only [List.setIfInBounds_toArray, List.set_cons_zero, List.set_cons_succ]
          refine wpAnyH_ready (rs := [0]) (by kernel_rfl) (by simp) ?_
          refine AllReadyH.cons rfl (fun K hK => ?_) AllReadyH.nil
          go_simp
          have hbA := oalloc W0 (.cells #[] 5)
          obtain ⟨v3, w3, happ, ho3, hg3⟩ := app_none (base := w.heap.size) (heap_alloc_new W0 (.cells #[] 5)) hgw (by simp; omega) (some (a.add c)) n (cap - c) ((l.drop c).take n) (by simp; omega) (HSRC2.out.below hbA (Nat.le_refl _)) (by omega)
          have HA := Lib.hid happ
          have HRD : Hid (RdS w3 Q l (c + n) false ∧ w.grownBy w3 (some Q)) := ⟨(HRR.out.1.below hbA hWQ).keep hg3.size fun b hb => hg3.block b (by simp; omega) (by simp; omega), ogfar (ogtrans HRR.out.2 (World.grownBy_alloc _ _ _)) hg3 (fun j hj => by cases hj; exact hgw)⟩
          have hS1 : (W0.alloc (.cells #[] 5)).cell? ⟨Q, 0, none⟩ = some (.slice (some a) l.length cap) ∧ (W0.alloc (.cells #[] 5)).cell? ⟨Q, 1, none⟩ = some (.int .i64 ((c : Int) + n)) := ⟨(hbA.cell (by exact hWQ)).trans hHeld.1, (hbA.cell (by exact hWQ)).trans hHeld.2⟩
          have hS2 : w3.cell? ⟨Q, 0, none⟩ = some (.slice (some a) l.length cap) ∧ w3.cell? ⟨Q, 1, none⟩ = some (.int .i64 ((c : Int) + n)) := ⟨hg3.cell hS1.1 (by simp; omega), hg3.cell hS1.2 (by simp; omega)⟩
          refine hK.out _ _ hS1 (fun _ => ?_)
          clear hK K happ hg3 hbA
          refine wpAnyH_ready (rs := [16]) (by kernel_rfl) (by simp) ?_
          refine AllReadyH.cons rfl (fun K hK => ?_) AllReadyH.nil
          refine step_app_eq (by rfl) 51 (by rfl) _ _ _ _ (by rfl) _ _ (by rfl) (by rfl) HA.out ?_
          simp only [List.setIfInBounds_toArray, List.set_cons_zero, List.set_cons_succ]
          refine hK.out _ _ hS2 (fun _ => ?_)
          clear hK K
          refine wpAnyH_ready (rs := [17]) (by kernel_rfl) (by simp) ?_
          refine AllReadyH.cons rfl (fun K hK => ?_) AllReadyH.nil
          go_simp
          refine hK.out _ _ hS2 (fun _ => ?_)
          clear hK K
          refine wpAnyH_done (by kernel_rfl) ?_ _
          refine NoPanic.normal ?_
          clear hHeld hS1 hS2 HA
          go_wp2
          go_ret
          exact ⟨_, rfl, HEND.out _ _ ho3 HRD.out.1 HRD.out.2⟩

end Go.Proofs.Ytobdcnpifbnjaac
