/- The contract of scan's Name. -/
import Derived.Test.YtajeijhmlkbjgaaDoorOwnB
namespace Go.Proofs.YtajeijhmlkbjgaaDoor
open Go.RowKit

/-- Whether it is a name. -/
def nameR (l : List UInt8) : Bool := match l with
  | [] => false
  | c :: r => decide (r.length < 10) && !pb digitB c && (c :: r).all (pb nameB)

theorem spanL_all (p : Int → Bool) : ∀ l : List UInt8, decide (spanL p l = l.length) = l.all (pb p)
  | [] => rfl
  | c :: r => by
    have ih := spanL_all p r
    simp only [spanL, List.takeWhile_cons, List.all_cons] at ih ⊢
    cases hc : pb p c
    · simp
    · rw [← ih]; simp only [if_true, List.length_cons, Bool.true_and, Nat.add_right_cancel_iff]; exact decide_eq_decide.2 Iff.rfl

theorem name_any (s : ByteArray) (w : World) :
    Calls Tryd.prog 30 #[.string s] w fun e w' => e = .returned (.bool (nameR s.data.toList)) ∧ w' = w := by
  have hlen := size_of (rfl : s.data.toList = _)
  cases hl : s.data.toList with
  | nil =>
    have hs : s = ⟨#[]⟩ := empty_of hl
    subst hs
    go_enter Tryd.func30, Tryd.ntmps30
    go_wp2
    go_ret
    exact ⟨rfl, rfl⟩
  | cons c r =>
    rw [hl] at hlen
    simp only [List.length_cons] at hlen
    have h0 : 0 < s.size := by omega
    have h1 : ¬ (s.size : Int) < 1 := by omega
    by_cases h10 : (10 : Int) < s.size
    · have HF : Hid (nameR (c :: r) = false) := by
        have : ¬ r.length < 10 := by omega
        simp [Hid, nameR, this]
      clear hlen
      go_enter Tryd.func30, Tryd.ntmps30
      go_wp2
      go_ret
      exact ⟨ret_bool HF.out.symm, rfl⟩
    · have hat : s[0] = c := by
        have := drop_at h0
        rw [List.drop_zero, hl] at this
        injection this with h1 _
        exact h1.symm
      have hidx := index9 s 0 0 rfl h0
      rw [hat] at hidx
      cases hd : digitB c.toNat
      · have HF : Hid (nameR (c :: r) = decide (spanL nameB (c :: r) = (c :: r).length)) := by
          have h2 : r.length < 10 := by omega
          have h3 : pb digitB c = false := hd
          rw [spanL_all]
          simp [Hid, nameR, h2, h3]
        have hsp : ∀ w, Calls Tryd.prog 51 #[.string s, .func (.func 52) #[] #[]] w fun e w' => e = .returned (.int .i64 (spanL nameB (c :: r))) ∧ w' = w := by
          intro w
          have := span_any s 52 nameB w (by omega) enters52 (fun c w => inName_any c w)
          rw [hl] at this
          exact this
        have hsz : (s.size : Int) = ((c :: r).length : Nat) := by simp; omega
        rw [HF.out]
        clear HF hl hat
        go_enter Tryd.func30, Tryd.ntmps30
        go_wp2_with (first | (go_at_call 50; refine (digit_any _ _).mono ?_; rintro e w' ⟨rfl, rfl⟩; simp only [hd]) | (go_at_call 51; refine (hsp _).mono ?_; rintro e w' ⟨rfl, rfl⟩))
        go_ret
        refine ⟨ret_bool ?_, rfl⟩
        show decide (((spanL nameB (c :: r) : Nat) : Int) = (r.length : Int) + 1) = _
        exact decide_eq_decide.2 (by omega)
      · have HF : Hid (nameR (c :: r) = false) := by
          have h3 : pb digitB c = true := hd
          simp [Hid, nameR, h3]
        clear hlen hl hat
        go_enter Tryd.func30, Tryd.ntmps30
        go_wp2_with (go_at_call 50; refine (digit_any _ _).mono ?_; rintro e w' ⟨rfl, rfl⟩; simp only [hd])
        go_ret
        exact ⟨ret_bool HF.out.symm, rfl⟩

end Go.Proofs.YtajeijhmlkbjgaaDoor
