/- The contracts of the program's own Wrong of a message, and of what it calls. -/
import Derived.Test.YtmbjahjkgjkbhaaDoorWrSpec
import Derived.Test.YtmbjahjkgjkbhaaDoorWrM
namespace Go.Proofs.YtmbjahjkgjkbhaaDoor
open Go.RowKit

/-- A message as one value. -/
def msV (m : Ms) (dv : Value) : Value := .agg #[.int .i64 m.kind, .int .i64 m.worker, .int .i64 m.unit, .int .i64 m.turn, .int .i64 m.err, .int .i64 m.place, dv]
/-- A message in a box. -/
def msC (m : Ms) (dv : Value) : Array Value := #[.int .i64 m.kind, .int .i64 m.worker, .int .i64 m.unit, .int .i64 m.turn, .int .i64 m.err, .int .i64 m.place, dv]

theorem below_any (n e : Int) (w : World) : Calls Tryd.prog 17 #[.int .i64 n, .int .i64 e] w fun r w' => r = .returned (.bool (decide (0 ≤ n ∧ n < e))) ∧ w' = w := by
  by_cases h0 : 0 ≤ n
  · by_cases h1 : n < e
    · go_enter Tryd.func17, Tryd.ntmps17
      go_wp2
      go_ret
      exact ⟨ret_bool (by simp; omega), rfl⟩
    · go_enter Tryd.func17, Tryd.ntmps17
      go_wp2
      go_ret
      exact ⟨ret_bool (by simp; omega), rfl⟩
  · go_enter Tryd.func17, Tryd.ntmps17
    go_wp2
    go_ret
    exact ⟨ret_bool (by simp; omega), rfl⟩

theorem tells_any (x p : Int) (w : World) : Calls Tryd.prog 24 #[.agg #[.int .i64 x, .int .i64 p]] w fun r w' => r = .returned (.bool (decide ((0 < x ∧ x ≤ 14) ∧ 0 ≤ p ∧ p < 65536))) ∧ Below w.heap.size w w' := by
  have hB := fun W => below_any p 65536 W
  have HA : Hid (Below w.heap.size w (w.alloc (.cells #[.int .i64 x, .int .i64 p] 24))) := oalloc w _
  by_cases h0 : 0 < x
  · by_cases h1 : x ≤ 14
    · go_enter Tryd.func24, Tryd.ntmps24
      go_wp2_with (go_at_call 17; refine (hB _).mono ?_; rintro e w1 ⟨rfl, rfl⟩)
      go_ret
      exact ⟨ret_bool (by simp [h0, h1]), HA.out⟩
    · clear hB
      go_enter Tryd.func24, Tryd.ntmps24
      go_wp2
      go_ret
      exact ⟨ret_bool (by simp; omega), HA.out⟩
  · clear hB
    go_enter Tryd.func24, Tryd.ntmps24
    go_wp2
    go_ret
    exact ⟨ret_bool (by simp; omega), HA.out⟩

/-- A box of a message that is in every later world. -/
theorem msbox {w w' : World} {k wk u t x p : Int} {dv : Value} (h : Below (w.alloc (.cells #[.int .i64 k, .int .i64 wk, .int .i64 u, .int .i64 t, .int .i64 x, .int .i64 p, dv] 27)).heap.size (w.alloc (.cells #[.int .i64 k, .int .i64 wk, .int .i64 u, .int .i64 t, .int .i64 x, .int .i64 p, dv] 27)) w') :
    w'.heap[w.heap.size]? = some (.cells #[.int .i64 k, .int .i64 wk, .int .i64 u, .int .i64 t, .int .i64 x, .int .i64 p, dv] 27 (0, 0)) := by
  rw [h.block _ (by simp)]
  exact heap_alloc_new w _

set_option maxHeartbeats 2000000 in
theorem fits_any (m : Ms) (ad : Option Addr) (cap : Nat) (w : World) : Calls Tryd.prog 18 #[msV m (.slice ad m.data.length cap)] w fun r w' => r = .returned (.bool (decide (fitsM m))) ∧ Below w.heap.size w w' := by
  have hT := fun W => tells_any m.err m.place W
  have HA : Hid (∀ o, Below w.heap.size w (w.alloc o)) := fun o => oalloc w o
  have HY : Hid (fitsM m → decide (fitsM m) = true) := fun h => decide_eq_true h
  have HN : Hid (¬ fitsM m → decide (fitsM m) = false) := fun h => decide_eq_false h
  generalize decide (fitsM m) = b at *
  unfold fitsM at HY HN
  obtain ⟨k, wk, u, t, x, p, l⟩ := m
  unfold msV
  simp only at *
  by_cases h3 : k = 3
  · by_cases ht : (0 < x ∧ x ≤ 14) ∧ 0 ≤ p ∧ p < 65536
    · simp only [decide_eq_true ht] at hT
      by_cases hd : l.length = 0
      · have HE := Lib.hid (HY.out (by rw [if_pos h3]; exact ⟨ht, hd⟩))
        have hd1 : (((l.length : Nat) : Int) == 0) = true := by simpa using hd
        have h3b : (k == 3) = true := by simpa using h3
        clear ht HY HN h3 hd
        go_enter Tryd.func18, Tryd.ntmps18
        go_wp2_with (go_at_call 24; refine (hT _).mono ?_; rintro e w1 ⟨rfl, hb1⟩; have HB1 := Lib.hid (bnext (HA.out _) hb1); have hc6 : w1.cell? ⟨w.heap.size, 6, none⟩ = some (.slice ad l.length cap) := cell_of_block (msbox hb1) rfl; clear hT hb1)
        go_ret
        exact ⟨ret_bool HE.out.symm, HB1.out⟩
      · have HE := Lib.hid (HN.out (by rw [if_pos h3]; exact fun h => hd h.2))
        have hd1 : (((l.length : Nat) : Int) == 0) = false := by simpa using hd
        have h3b : (k == 3) = true := by simpa using h3
        clear ht HY HN h3 hd
        go_enter Tryd.func18, Tryd.ntmps18
        go_wp2_with (go_at_call 24; refine (hT _).mono ?_; rintro e w1 ⟨rfl, hb1⟩; have HB1 := Lib.hid (bnext (HA.out _) hb1); have hc6 : w1.cell? ⟨w.heap.size, 6, none⟩ = some (.slice ad l.length cap) := cell_of_block (msbox hb1) rfl; clear hT hb1)
        go_ret
        exact ⟨ret_bool HE.out.symm, HB1.out⟩
    · simp only [decide_eq_false ht] at hT
      have HE := Lib.hid (HN.out (by rw [if_pos h3]; exact fun h => ht h.1))
      have h3b : (k == 3) = true := by simpa using h3
      clear ht HY HN h3
      go_enter Tryd.func18, Tryd.ntmps18
      go_wp2_with (go_at_call 24; refine (hT _).mono ?_; rintro e w1 ⟨rfl, hb1⟩; have HB1 := Lib.hid (bnext (HA.out _) hb1); have hc6 : w1.cell? ⟨w.heap.size, 6, none⟩ = some (.slice ad l.length cap) := cell_of_block (msbox hb1) rfl; clear hT hb1)
      go_ret
      exact ⟨ret_bool HE.out.symm, HB1.out⟩
  · by_cases ht : x = 0
    · by_cases hp : p = 0
      · have HE := Lib.hid (HY.out (by rw [if_neg h3]; exact ⟨ht, hp⟩))
        clear HY HN hT
        go_enter Tryd.func18, Tryd.ntmps18
        go_wp2
        go_ret
        exact ⟨ret_bool HE.out.symm, HA.out _⟩
      · have HE := Lib.hid (HN.out (by rw [if_neg h3]; exact fun h => hp h.2))
        clear HY HN hT
        go_enter Tryd.func18, Tryd.ntmps18
        go_wp2
        go_ret
        exact ⟨ret_bool HE.out.symm, HA.out _⟩
    · have HE := Lib.hid (HN.out (by rw [if_neg h3]; exact fun h => ht h.1))
      clear HY HN hT
      go_enter Tryd.func18, Tryd.ntmps18
      go_wp2
      go_ret
      exact ⟨ret_bool HE.out.symm, HA.out _⟩

end Go.Proofs.YtmbjahjkgjkbhaaDoor
