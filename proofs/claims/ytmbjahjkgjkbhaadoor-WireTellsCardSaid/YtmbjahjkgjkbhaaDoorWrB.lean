/- The contract of the program's own Wrong of a message. -/
import Derived.Test.YtmbjahjkgjkbhaaDoorWrA
namespace Go.Proofs.YtmbjahjkgjkbhaaDoor
open Go.RowKit

theorem wm1 {m : Ms} (h : m.kind ≠ 1 ∧ m.kind ≠ 2 ∧ m.kind ≠ 3) : wrongM m = 1 := if_pos h
theorem wm3 {m : Ms} (h : m.kind = 1 ∨ m.kind = 2 ∨ m.kind = 3) (hr : ¬ rangeM m) : wrongM m = 3 := by
  unfold wrongM
  rw [if_neg (by omega), if_pos hr]
theorem wm8 {m : Ms} (h : m.kind = 1 ∨ m.kind = 2 ∨ m.kind = 3) (hr : rangeM m) (hf : ¬ fitsM m) : wrongM m = 8 := by
  unfold wrongM
  rw [if_neg (by omega), if_neg (Decidable.not_not.2 hr), if_pos hf]
theorem wm4 {m : Ms} (h : m.kind = 1 ∨ m.kind = 2 ∨ m.kind = 3) (hr : rangeM m) (hf : fitsM m) (hm : 1048576 < m.data.length) : wrongM m = 4 := by
  unfold wrongM
  rw [if_neg (by omega), if_neg (Decidable.not_not.2 hr), if_neg (Decidable.not_not.2 hf), if_pos hm]
theorem wm0 {m : Ms} (h : m.kind = 1 ∨ m.kind = 2 ∨ m.kind = 3) (hr : rangeM m) (hf : fitsM m) (hm : ¬ 1048576 < m.data.length) : wrongM m = 0 := by
  unfold wrongM
  rw [if_neg (by omega), if_neg (Decidable.not_not.2 hr), if_neg (Decidable.not_not.2 hf), if_neg hm]

set_option maxHeartbeats 8000000 in
theorem wrong_any (m : Ms) (ad : Option Addr) (cap : Nat) (w : World) : Calls Tryd.prog 8 #[msV m (.slice ad m.data.length cap)] w fun r w' => r = .returned (.int .i64 (wrongM m)) ∧ Below w.heap.size w w' := by
  have hB := fun a b W => below_any a b W
  have hF := fun W => fits_any m ad cap W
  have HA : Hid (∀ o, Below w.heap.size w (w.alloc o)) := fun o => oalloc w o
  by_cases hk : m.kind ≠ 1 ∧ m.kind ≠ 2 ∧ m.kind ≠ 3
  · rw [wm1 hk]
    obtain ⟨k, wk, u, t, x, p, l⟩ := m
    unfold msV
    simp only at hk
    obtain ⟨h1, h2, h3⟩ := hk
    have h1 : (k != 1) = true := by simpa using h1
    have h2 : (k != 2) = true := by simpa using h2
    have h3 : (k != 3) = true := by simpa using h3
    clear hB hF
    go_enter Tryd.func8, Tryd.ntmps8
    go_wp2
    go_ret
    exact ⟨rfl, HA.out _⟩
  · have hk : m.kind = 1 ∨ m.kind = 2 ∨ m.kind = 3 := by omega
    have HK : Hid ((m.kind != 1) = false ∨ ((m.kind != 1) = true ∧ (m.kind != 2) = false) ∨ ((m.kind != 1) = true ∧ (m.kind != 2) = true ∧ (m.kind != 3) = false)) := by
      rcases hk with h | h | h <;> simp [Hid, h]
    by_cases hr : rangeM m
    · have hr0 := hr
      unfold rangeM at hr0
      obtain ⟨r1, r2, r3⟩ := hr0
      have d1 : decide (0 ≤ m.worker ∧ m.worker < 3) = true := decide_eq_true r1
      have d2 : decide (0 ≤ m.unit ∧ m.unit < 4) = true := decide_eq_true r2
      have d3 : decide (0 ≤ m.turn ∧ m.turn < 65536) = true := decide_eq_true r3
      clear r1 r2 r3
      by_cases hf : fitsM m
      · simp only [decide_eq_true hf] at hF
        by_cases hm : 1048576 < m.data.length
        · rw [wm4 hk hr hf hm]
          clear hk hr hf
          obtain ⟨k, wk, u, t, x, p, l⟩ := m
          unfold msV at *
          simp only at *
          have hm1 : (1048576 : Int) < (l.length : Int) := by omega
          rcases HK.out with h1 | ⟨h1, h2⟩ | ⟨h1, h2, h3⟩
          · clear HK
            go_enter Tryd.func8, Tryd.ntmps8
            go_wp2_with (first | (go_at_call 17; refine (hB _ _ _).mono ?_; rintro e w1 ⟨rfl, rfl⟩; simp only [d1, d2, d3]) | (go_at_call 18; refine (hF _).mono ?_; rintro e w1 ⟨rfl, hb1⟩; have HB1 := Lib.hid (bnext (HA.out _) hb1); have hc6 : w1.cell? ⟨w.heap.size, 6, none⟩ = some (.slice ad l.length cap) := cell_of_block (msbox hb1) rfl; clear hb1 hB hF))
            go_ret
            exact ⟨rfl, HB1.out⟩
          · clear HK
            go_enter Tryd.func8, Tryd.ntmps8
            go_wp2_with (first | (go_at_call 17; refine (hB _ _ _).mono ?_; rintro e w1 ⟨rfl, rfl⟩; simp only [d1, d2, d3]) | (go_at_call 18; refine (hF _).mono ?_; rintro e w1 ⟨rfl, hb1⟩; have HB1 := Lib.hid (bnext (HA.out _) hb1); have hc6 : w1.cell? ⟨w.heap.size, 6, none⟩ = some (.slice ad l.length cap) := cell_of_block (msbox hb1) rfl; clear hb1 hB hF))
            go_ret
            exact ⟨rfl, HB1.out⟩
          · clear HK
            go_enter Tryd.func8, Tryd.ntmps8
            go_wp2_with (first | (go_at_call 17; refine (hB _ _ _).mono ?_; rintro e w1 ⟨rfl, rfl⟩; simp only [d1, d2, d3]) | (go_at_call 18; refine (hF _).mono ?_; rintro e w1 ⟨rfl, hb1⟩; have HB1 := Lib.hid (bnext (HA.out _) hb1); have hc6 : w1.cell? ⟨w.heap.size, 6, none⟩ = some (.slice ad l.length cap) := cell_of_block (msbox hb1) rfl; clear hb1 hB hF))
            go_ret
            exact ⟨rfl, HB1.out⟩
        · rw [wm0 hk hr hf hm]
          clear hk hr hf
          obtain ⟨k, wk, u, t, x, p, l⟩ := m
          unfold msV at *
          simp only at *
          have hm1 : ¬ (1048576 : Int) < (l.length : Int) := by omega
          rcases HK.out with h1 | ⟨h1, h2⟩ | ⟨h1, h2, h3⟩
          · clear HK
            go_enter Tryd.func8, Tryd.ntmps8
            go_wp2_with (first | (go_at_call 17; refine (hB _ _ _).mono ?_; rintro e w1 ⟨rfl, rfl⟩; simp only [d1, d2, d3]) | (go_at_call 18; refine (hF _).mono ?_; rintro e w1 ⟨rfl, hb1⟩; have HB1 := Lib.hid (bnext (HA.out _) hb1); have hc6 : w1.cell? ⟨w.heap.size, 6, none⟩ = some (.slice ad l.length cap) := cell_of_block (msbox hb1) rfl; clear hb1 hB hF))
            go_ret
            exact ⟨rfl, HB1.out⟩
          · clear HK
            go_enter Tryd.func8, Tryd.ntmps8
            go_wp2_with (first | (go_at_call 17; refine (hB _ _ _).mono ?_; rintro e w1 ⟨rfl, rfl⟩; simp only [d1, d2, d3]) | (go_at_call 18; refine (hF _).mono ?_; rintro e w1 ⟨rfl, hb1⟩; have HB1 := Lib.hid (bnext (HA.out _) hb1); have hc6 : w1.cell? ⟨w.heap.size, 6, none⟩ = some (.slice ad l.length cap) := cell_of_block (msbox hb1) rfl; clear hb1 hB hF))
            go_ret
            exact ⟨rfl, HB1.out⟩
          · clear HK
            go_enter Tryd.func8, Tryd.ntmps8
            go_wp2_with (first | (go_at_call 17; refine (hB _ _ _).mono ?_; rintro e w1 ⟨rfl, rfl⟩; simp only [d1, d2, d3]) | (go_at_call 18; refine (hF _).mono ?_; rintro e w1 ⟨rfl, hb1⟩; have HB1 := Lib.hid (bnext (HA.out _) hb1); have hc6 : w1.cell? ⟨w.heap.size, 6, none⟩ = some (.slice ad l.length cap) := cell_of_block (msbox hb1) rfl; clear hb1 hB hF))
            go_ret
            exact ⟨rfl, HB1.out⟩
      · simp only [decide_eq_false hf] at hF
        rw [wm8 hk hr hf]
        clear hk hr hf
        obtain ⟨k, wk, u, t, x, p, l⟩ := m
        unfold msV at *
        simp only at *
        rcases HK.out with h1 | ⟨h1, h2⟩ | ⟨h1, h2, h3⟩
        · clear HK
          go_enter Tryd.func8, Tryd.ntmps8
          go_wp2_with (first | (go_at_call 17; refine (hB _ _ _).mono ?_; rintro e w1 ⟨rfl, rfl⟩; simp only [d1, d2, d3]) | (go_at_call 18; refine (hF _).mono ?_; rintro e w1 ⟨rfl, hb1⟩; have HB1 := Lib.hid (bnext (HA.out _) hb1); have hc6 : w1.cell? ⟨w.heap.size, 6, none⟩ = some (.slice ad l.length cap) := cell_of_block (msbox hb1) rfl; clear hb1 hB hF))
          go_ret
          exact ⟨rfl, HB1.out⟩
        · clear HK
          go_enter Tryd.func8, Tryd.ntmps8
          go_wp2_with (first | (go_at_call 17; refine (hB _ _ _).mono ?_; rintro e w1 ⟨rfl, rfl⟩; simp only [d1, d2, d3]) | (go_at_call 18; refine (hF _).mono ?_; rintro e w1 ⟨rfl, hb1⟩; have HB1 := Lib.hid (bnext (HA.out _) hb1); have hc6 : w1.cell? ⟨w.heap.size, 6, none⟩ = some (.slice ad l.length cap) := cell_of_block (msbox hb1) rfl; clear hb1 hB hF))
          go_ret
          exact ⟨rfl, HB1.out⟩
        · clear HK
          go_enter Tryd.func8, Tryd.ntmps8
          go_wp2_with (first | (go_at_call 17; refine (hB _ _ _).mono ?_; rintro e w1 ⟨rfl, rfl⟩; simp only [d1, d2, d3]) | (go_at_call 18; refine (hF _).mono ?_; rintro e w1 ⟨rfl, hb1⟩; have HB1 := Lib.hid (bnext (HA.out _) hb1); have hc6 : w1.cell? ⟨w.heap.size, 6, none⟩ = some (.slice ad l.length cap) := cell_of_block (msbox hb1) rfl; clear hb1 hB hF))
          go_ret
          exact ⟨rfl, HB1.out⟩
    · rw [wm3 hk hr]
      unfold rangeM at hr
      clear hk hF
      obtain ⟨k, wk, u, t, x, p, l⟩ := m
      unfold msV at *
      simp only at *
      by_cases r1 : 0 ≤ wk ∧ wk < 3
      · have d1 : decide (0 ≤ wk ∧ wk < 3) = true := decide_eq_true r1
        by_cases r2 : 0 ≤ u ∧ u < 4
        · have d2 : decide (0 ≤ u ∧ u < 4) = true := decide_eq_true r2
          have r3 : ¬ (0 ≤ t ∧ t < 65536) := fun h => hr ⟨r1, r2, h⟩
          have d3 : decide (0 ≤ t ∧ t < 65536) = false := decide_eq_false r3
          clear r1 r2 r3 hr
          rcases HK.out with h1 | ⟨h1, h2⟩ | ⟨h1, h2, h3⟩
          · clear HK
            go_enter Tryd.func8, Tryd.ntmps8
            go_wp2_with ((go_at_call 17; refine (hB _ _ _).mono ?_; rintro e w1 ⟨rfl, rfl⟩; simp only [d1, d2, d3]))
            go_ret
            exact ⟨rfl, HA.out _⟩
          · clear HK
            go_enter Tryd.func8, Tryd.ntmps8
            go_wp2_with ((go_at_call 17; refine (hB _ _ _).mono ?_; rintro e w1 ⟨rfl, rfl⟩; simp only [d1, d2, d3]))
            go_ret
            exact ⟨rfl, HA.out _⟩
          · clear HK
            go_enter Tryd.func8, Tryd.ntmps8
            go_wp2_with ((go_at_call 17; refine (hB _ _ _).mono ?_; rintro e w1 ⟨rfl, rfl⟩; simp only [d1, d2, d3]))
            go_ret
            exact ⟨rfl, HA.out _⟩
        · have d2 : decide (0 ≤ u ∧ u < 4) = false := decide_eq_false r2
          clear r1 r2 hr
          rcases HK.out with h1 | ⟨h1, h2⟩ | ⟨h1, h2, h3⟩
          · clear HK
            go_enter Tryd.func8, Tryd.ntmps8
            go_wp2_with ((go_at_call 17; refine (hB _ _ _).mono ?_; rintro e w1 ⟨rfl, rfl⟩; simp only [d1, d2]))
            go_ret
            exact ⟨rfl, HA.out _⟩
          · clear HK
            go_enter Tryd.func8, Tryd.ntmps8
            go_wp2_with ((go_at_call 17; refine (hB _ _ _).mono ?_; rintro e w1 ⟨rfl, rfl⟩; simp only [d1, d2]))
            go_ret
            exact ⟨rfl, HA.out _⟩
          · clear HK
            go_enter Tryd.func8, Tryd.ntmps8
            go_wp2_with ((go_at_call 17; refine (hB _ _ _).mono ?_; rintro e w1 ⟨rfl, rfl⟩; simp only [d1, d2]))
            go_ret
            exact ⟨rfl, HA.out _⟩
      · have d1 : decide (0 ≤ wk ∧ wk < 3) = false := decide_eq_false r1
        clear r1 hr
        rcases HK.out with h1 | ⟨h1, h2⟩ | ⟨h1, h2, h3⟩
        · clear HK
          go_enter Tryd.func8, Tryd.ntmps8
          go_wp2_with ((go_at_call 17; refine (hB _ _ _).mono ?_; rintro e w1 ⟨rfl, rfl⟩; simp only [d1]))
          go_ret
          exact ⟨rfl, HA.out _⟩
        · clear HK
          go_enter Tryd.func8, Tryd.ntmps8
          go_wp2_with ((go_at_call 17; refine (hB _ _ _).mono ?_; rintro e w1 ⟨rfl, rfl⟩; simp only [d1]))
          go_ret
          exact ⟨rfl, HA.out _⟩
        · clear HK
          go_enter Tryd.func8, Tryd.ntmps8
          go_wp2_with ((go_at_call 17; refine (hB _ _ _).mono ?_; rintro e w1 ⟨rfl, rfl⟩; simp only [d1]))
          go_ret
          exact ⟨rfl, HA.out _⟩

end Go.Proofs.YtmbjahjkgjkbhaaDoor
