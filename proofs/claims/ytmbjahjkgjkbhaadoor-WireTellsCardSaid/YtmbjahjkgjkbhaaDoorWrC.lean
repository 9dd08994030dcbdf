/- The contract of the document's own Wrong of a message. -/
import Derived.Test.YtmbjahjkgjkbhaaDoorWrB
namespace Go.Proofs.YtmbjahjkgjkbhaaDoor
open Go.RowKit

set_option maxHeartbeats 8000000 in
theorem rwrong_any (m : Ms) (ad : Option Addr) (cap : Nat) (w : World) : Calls Tryd.prog 9 #[msV m (.slice ad m.data.length cap)] w fun r w' => r = .returned (.int .i64 (wrongM m)) ∧ Below w.heap.size w w' := by
  have HA : Hid (∀ o, Below w.heap.size w (w.alloc o)) := fun o => oalloc w o
  have H1 := Lib.hid (wm1 (m := m))
  have H3 := Lib.hid (wm3 (m := m))
  have H8 := Lib.hid (wm8 (m := m))
  have H4 := Lib.hid (wm4 (m := m))
  have H0 := Lib.hid (wm0 (m := m))
  generalize wrongM m = E at *
  unfold rangeM at H3 H8 H4 H0
  unfold fitsM at H8 H4 H0
  obtain ⟨k, wk, u, t, x, p, l⟩ := m
  unfold msV
  simp only at *
  generalize l.length = n at *
  by_cases k1 : k < 1
  · have HE : E = 1 := H1.out (by omega)
    subst HE
    clear H1 H3 H8 H4 H0
    go_enter Tryd.func9, Tryd.ntmps9
    go_wp2
    go_ret
    exact ⟨rfl, HA.out _⟩
  by_cases k3 : 3 < k
  · have HE : E = 1 := H1.out (by omega)
    subst HE
    clear H1 H3 H8 H4 H0
    go_enter Tryd.func9, Tryd.ntmps9
    go_wp2
    go_ret
    exact ⟨rfl, HA.out _⟩
  have HK : Hid (k = 1 ∨ k = 2 ∨ k = 3) := by unfold Hid; omega
  by_cases a1 : wk < 0
  · have HE : E = 3 := H3.out HK.out (by omega)
    subst HE
    clear H1 H3 H8 H4 H0
    go_enter Tryd.func9, Tryd.ntmps9
    go_wp2
    go_ret
    exact ⟨rfl, HA.out _⟩
  by_cases a2 : 2 < wk
  · have HE : E = 3 := H3.out HK.out (by omega)
    subst HE
    clear H1 H3 H8 H4 H0
    go_enter Tryd.func9, Tryd.ntmps9
    go_wp2
    go_ret
    exact ⟨rfl, HA.out _⟩
  by_cases b1 : u < 0
  · have HE : E = 3 := H3.out HK.out (by omega)
    subst HE
    clear H1 H3 H8 H4 H0
    go_enter Tryd.func9, Tryd.ntmps9
    go_wp2
    go_ret
    exact ⟨rfl, HA.out _⟩
  by_cases b2 : 3 < u
  · have HE : E = 3 := H3.out HK.out (by omega)
    subst HE
    clear H1 H3 H8 H4 H0
    go_enter Tryd.func9, Tryd.ntmps9
    go_wp2
    go_ret
    exact ⟨rfl, HA.out _⟩
  by_cases c1 : t < 0
  · have HE : E = 3 := H3.out HK.out (by omega)
    subst HE
    clear H1 H3 H8 H4 H0
    go_enter Tryd.func9, Tryd.ntmps9
    go_wp2
    go_ret
    exact ⟨rfl, HA.out _⟩
  by_cases c2 : 65535 < t
  · have HE : E = 3 := H3.out HK.out (by omega)
    subst HE
    clear H1 H3 H8 H4 H0
    go_enter Tryd.func9, Tryd.ntmps9
    go_wp2
    go_ret
    exact ⟨rfl, HA.out _⟩
  have HR : Hid ((0 ≤ wk ∧ wk < 3) ∧ (0 ≤ u ∧ u < 4) ∧ 0 ≤ t ∧ t < 65536) := by unfold Hid; omega
  have hx : (x < 0) ∨ (x = 0 ∧ p = 0) ∨ (x = 0 ∧ p ≠ 0) ∨ (14 < x) ∨ (0 < x ∧ x ≤ 14 ∧ p < 0) ∨ (0 < x ∧ x ≤ 14 ∧ 65535 < p) ∨ (0 < x ∧ x ≤ 14 ∧ 0 ≤ p ∧ p ≤ 65535) := by omega
  rcases hx with hx | hx | hx | hx | hx | hx | hx
  · have n1 : (x == 0) = false := by simp; omega
    have g1 : ¬ 0 < x := by omega
    by_cases h3 : k = 3
    · have e3 : (k == 3) = true := by simpa using h3
      have e4 : (k != 3) = false := by simpa using h3
      have HE : E = 8 := H8.out HK.out HR.out (by rw [if_pos h3]; omega)
      subst HE
      clear H1 H3 H8 H4 H0
      clear HK HR h3 hx
      go_enter Tryd.func9, Tryd.ntmps9
      go_wp2
      go_ret
      exact ⟨rfl, HA.out _⟩
    · have e3 : (k == 3) = false := by simpa using h3
      have e4 : (k != 3) = true := by simpa using h3
      have HE : E = 8 := H8.out HK.out HR.out (by rw [if_neg h3]; omega)
      subst HE
      clear H1 H3 H8 H4 H0
      clear HK HR h3 hx
      go_enter Tryd.func9, Tryd.ntmps9
      go_wp2
      go_ret
      exact ⟨rfl, HA.out _⟩
  · have n1 : (x == 0) = true := by simp; omega
    have n2 : (p == 0) = true := by simp; omega
    have g1 : ¬ 0 < x := by omega
    by_cases h3 : k = 3
    · have e3 : (k == 3) = true := by simpa using h3
      have e4 : (k != 3) = false := by simpa using h3
      have HE : E = 8 := H8.out HK.out HR.out (by rw [if_pos h3]; omega)
      subst HE
      clear H1 H3 H8 H4 H0
      clear HK HR h3 hx
      go_enter Tryd.func9, Tryd.ntmps9
      go_wp2
      go_ret
      exact ⟨rfl, HA.out _⟩
    · by_cases hd : 1048576 < n
      · have e3 : (k == 3) = false := by simpa using h3
        have e4 : (k != 3) = true := by simpa using h3
        have hm1 : (1048576 : Int) < (n : Int) := by omega
        have HE : E = 4 := H4.out HK.out HR.out (by rw [if_neg h3]; omega) hd
        subst HE
        clear H1 H3 H8 H4 H0
        clear HK HR h3 hx hd
        go_enter Tryd.func9, Tryd.ntmps9
        go_wp2
        go_ret
        exact ⟨rfl, HA.out _⟩
      · have e3 : (k == 3) = false := by simpa using h3
        have e4 : (k != 3) = true := by simpa using h3
        have hm1 : ¬ (1048576 : Int) < (n : Int) := by omega
        have HE : E = 0 := H0.out HK.out HR.out (by rw [if_neg h3]; omega) hd
        subst HE
        clear H1 H3 H8 H4 H0
        clear HK HR h3 hx hd
        go_enter Tryd.func9, Tryd.ntmps9
        go_wp2
        go_ret
        exact ⟨rfl, HA.out _⟩
  · have n1 : (x == 0) = true := by simp; omega
    have n2 : (p == 0) = false := by simp; omega
    have g1 : ¬ 0 < x := by omega
    by_cases h3 : k = 3
    · have e3 : (k == 3) = true := by simpa using h3
      have e4 : (k != 3) = false := by simpa using h3
      have HE : E = 8 := H8.out HK.out HR.out (by rw [if_pos h3]; omega)
      subst HE
      clear H1 H3 H8 H4 H0
      clear HK HR h3 hx
      go_enter Tryd.func9, Tryd.ntmps9
      go_wp2
      go_ret
      exact ⟨rfl, HA.out _⟩
    · have e3 : (k == 3) = false := by simpa using h3
      have e4 : (k != 3) = true := by simpa using h3
      have HE : E = 8 := H8.out HK.out HR.out (by rw [if_neg h3]; omega)
      subst HE
      clear H1 H3 H8 H4 H0
      clear HK HR h3 hx
      go_enter Tryd.func9, Tryd.ntmps9
      go_wp2
      go_ret
      exact ⟨rfl, HA.out _⟩
  · have n1 : (x == 0) = false := by simp; omega
    have g1 : 0 < x := by omega
    have g2 : ¬ x ≤ 14 := by omega
    by_cases h3 : k = 3
    · have e3 : (k == 3) = true := by simpa using h3
      have e4 : (k != 3) = false := by simpa using h3
      have HE : E = 8 := H8.out HK.out HR.out (by rw [if_pos h3]; omega)
      subst HE
      clear H1 H3 H8 H4 H0
      clear HK HR h3 hx
      go_enter Tryd.func9, Tryd.ntmps9
      go_wp2
      go_ret
      exact ⟨rfl, HA.out _⟩
    · have e3 : (k == 3) = false := by simpa using h3
      have e4 : (k != 3) = true := by simpa using h3
      have HE : E = 8 := H8.out HK.out HR.out (by rw [if_neg h3]; omega)
      subst HE
      clear H1 H3 H8 H4 H0
      clear HK HR h3 hx
      go_enter Tryd.func9, Tryd.ntmps9
      go_wp2
      go_ret
      exact ⟨rfl, HA.out _⟩
  · have n1 : (x == 0) = false := by simp; omega
    have g1 : 0 < x := by omega
    have g2 : x ≤ 14 := by omega
    have g3 : ¬ 0 ≤ p := by omega
    by_cases h3 : k = 3
    · have e3 : (k == 3) = true := by simpa using h3
      have e4 : (k != 3) = false := by simpa using h3
      have HE : E = 8 := H8.out HK.out HR.out (by rw [if_pos h3]; omega)
      subst HE
      clear H1 H3 H8 H4 H0
      clear HK HR h3 hx
      go_enter Tryd.func9, Tryd.ntmps9
      go_wp2
      go_ret
      exact ⟨rfl, HA.out _⟩
    · have e3 : (k == 3) = false := by simpa using h3
      have e4 : (k != 3) = true := by simpa using h3
      have HE : E = 8 := H8.out HK.out HR.out (by rw [if_neg h3]; omega)
      subst HE
      clear H1 H3 H8 H4 H0
      clear HK HR h3 hx
      go_enter Tryd.func9, Tryd.ntmps9
      go_wp2
      go_ret
      exact ⟨rfl, HA.out _⟩
  · have n1 : (x == 0) = false := by simp; omega
    have g1 : 0 < x := by omega
    have g2 : x ≤ 14 := by omega
    have g3 : 0 ≤ p := by omega
    have g4 : ¬ p ≤ 65535 := by omega
    by_cases h3 : k = 3
    · have e3 : (k == 3) = true := by simpa using h3
      have e4 : (k != 3) = false := by simpa using h3
      have HE : E = 8 := H8.out HK.out HR.out (by rw [if_pos h3]; omega)
      subst HE
      clear H1 H3 H8 H4 H0
      clear HK HR h3 hx
      go_enter Tryd.func9, Tryd.ntmps9
      go_wp2
      go_ret
      exact ⟨rfl, HA.out _⟩
    · have e3 : (k == 3) = false := by simpa using h3
      have e4 : (k != 3) = true := by simpa using h3
      have HE : E = 8 := H8.out HK.out HR.out (by rw [if_neg h3]; omega)
      subst HE
      clear H1 H3 H8 H4 H0
      clear HK HR h3 hx
      go_enter Tryd.func9, Tryd.ntmps9
      go_wp2
      go_ret
      exact ⟨rfl, HA.out _⟩
  · have n1 : (x == 0) = false := by simp; omega
    have g1 : 0 < x := by omega
    have g2 : x ≤ 14 := by omega
    have g3 : 0 ≤ p := by omega
    have g4 : p ≤ 65535 := by omega
    by_cases h3 : k = 3
    · by_cases hd : n = 0
      · have e3 : (k == 3) = true := by simpa using h3
        have e4 : (k != 3) = false := by simpa using h3
        have hd1 : ¬ (0 : Int) < (n : Int) := by omega
        have hm1 : ¬ (1048576 : Int) < (n : Int) := by omega
        have HE : E = 0 := H0.out HK.out HR.out (by rw [if_pos h3]; omega) (by omega)
        subst HE
        clear H1 H3 H8 H4 H0
        clear HK HR h3 hx hd
        go_enter Tryd.func9, Tryd.ntmps9
        go_wp2
        go_ret
        exact ⟨rfl, HA.out _⟩
      · have e3 : (k == 3) = true := by simpa using h3
        have e4 : (k != 3) = false := by simpa using h3
        have hd1 : (0 : Int) < (n : Int) := by omega
        have HE : E = 8 := H8.out HK.out HR.out (by rw [if_pos h3]; omega)
        subst HE
        clear H1 H3 H8 H4 H0
        clear HK HR h3 hx hd
        go_enter Tryd.func9, Tryd.ntmps9
        go_wp2
        go_ret
        exact ⟨rfl, HA.out _⟩
    · have e3 : (k == 3) = false := by simpa using h3
      have e4 : (k != 3) = true := by simpa using h3
      have HE : E = 8 := H8.out HK.out HR.out (by rw [if_neg h3]; omega)
      subst HE
      clear H1 H3 H8 H4 H0
      clear HK HR h3 hx
      go_enter Tryd.func9, Tryd.ntmps9
      go_wp2
      go_ret
      exact ⟨rfl, HA.out _⟩

end Go.Proofs.YtmbjahjkgjkbhaaDoor
