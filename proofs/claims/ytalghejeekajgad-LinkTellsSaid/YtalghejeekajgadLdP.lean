/- The program's own wrong, laying, telling (the closures made) and asked. -/
import Derived.Test.YtalghejeekajgadLdM
namespace Go.Proofs.Ytalghejeekajgad
open Go.RowKit Go.Maps Go.MapKept

theorem wrongP_any (o : Ob) (c s r : Value) (n : Int) (w : World) (h : ObIn w c s r o) (hnl : ∀ x, x ∈ o.syms → x.name.length ≤ maxLen) :
    Calls Try.prog 26 #[.agg #[c, s, r], .int .i64 n] w fun e w' => e = .returned (.int .i64 (wrongO nameR o)) ∧ Below w.heap.size w w' := by
  have h2 := h.below (oalloc w (.cells #[c, s, r] 26)) (Nat.le_refl _)
  have HW := Lib.hid (wrong_any o c s r _ h2.1 h2.2.1 h2.2.2 hnl)
  have HB := Lib.hid (oalloc w (.cells #[c, s, r] 26))
  obtain ⟨q1, q2, rfl, q3⟩ := h.1
  obtain ⟨q4, q5, rfl, q6⟩ := h.2.1
  obtain ⟨q7, q8, rfl, q9⟩ := h.2.2
  unfold obV at HW
  clear q3 q6 q9 h h2 hnl
  go_enter Try.func26, Try.ntmps26
  go_wp2_with (first | (go_at_call 6; refine HW.out.mono ?_; rintro e w1 ⟨rfl, hb1⟩; have HB1 := Lib.hid (HB.out.trans (hb1.mono (by simp))); clear hb1) | fail)
  go_ret
  exact ⟨rfl, HB1.out⟩

theorem laying_any (p m : Value) (ad : Addr) (mb : Nat) (hp : p = .pointer (some ad)) (hm : m = .map (some mb)) (w : World) :
    Calls Try.prog 27 #[p, m] w fun e w' => e = .returned (.func (.func 45) #[] #[.pointer (some ⟨w.heap.size, 0, none⟩), .pointer (some ⟨w.heap.size + 1, 0, none⟩)]) ∧ w' = (w.alloc (.cells #[p] 70)).alloc (.cells #[m] 66) := by
  subst hp hm
  go_enter Try.func27, Try.ntmps27
  go_wp2
  go_ret
  exact ⟨rfl, rfl⟩
theorem telling_any (p m : Value) (ad : Addr) (mb : Nat) (hp : p = .pointer (some ad)) (hm : m = .map (some mb)) (w : World) :
    Calls Try.prog 28 #[p, m] w fun e w' => e = .returned (.func (.func 46) #[] #[.pointer (some ⟨w.heap.size + 1, 0, none⟩), .pointer (some ⟨w.heap.size, 0, none⟩)]) ∧ w' = (w.alloc (.cells #[p] 70)).alloc (.cells #[m] 66) := by
  subst hp hm
  go_enter Try.func28, Try.ntmps28
  go_wp2
  go_ret
  exact ⟨rfl, rfl⟩

/-- What a reloc asks for. -/
def AskedR (s : List Sy) (A : Int) (r : Re) (n e : Int) : Prop :=
  (e = 6 ∧ (if r.name = [] then A else whereL r.name s) < 0) ∨
  (e = 3 ∧ ¬ (if r.name = [] then A else whereL r.name s) < 0 ∧ (r.size = 2 ∧ (65535 < wrap32 ((if r.name = [] then A else whereL r.name s) + r.add) ∨ wrap32 ((if r.name = [] then A else whereL r.name s) + r.add) < -32768))) ∨
  (e = 0 ∧ ¬ (if r.name = [] then A else whereL r.name s) < 0 ∧ ¬ (r.size = 2 ∧ (65535 < wrap32 ((if r.name = [] then A else whereL r.name s) + r.add) ∨ wrap32 ((if r.name = [] then A else whereL r.name s) + r.add) < -32768)) ∧ n = wrap32 ((if r.name = [] then A else whereL r.name s) + r.add))
theorem asked6 {s : List Sy} {A p : Int} {r : Re} (n : Int) (hp : (if r.name = [] then A else whereL r.name s) = p) (h : p < 0) : AskedR s A r n 6 := by subst hp; exact .inl ⟨rfl, h⟩
theorem asked3 {s : List Sy} {A p : Int} {r : Re} (n : Int) (hp : (if r.name = [] then A else whereL r.name s) = p) (h : ¬ p < 0) (h2 : r.size = 2 ∧ (65535 < wrap32 (p + r.add) ∨ wrap32 (p + r.add) < -32768)) : AskedR s A r n 3 := by subst hp; exact .inr (.inl ⟨rfl, h, h2⟩)
theorem asked0 {s : List Sy} {A p : Int} {r : Re} (hp : (if r.name = [] then A else whereL r.name s) = p) (h : ¬ p < 0) (h2 : ¬ (r.size = 2 ∧ (65535 < wrap32 (p + r.add) ∨ wrap32 (p + r.add) < -32768))) : AskedR s A r (wrap32 (p + r.add)) 0 := by subst hp; exact .inr (.inr ⟨rfl, h, h2, rfl⟩)

theorem signed_as (n n' : Int) (w : World) (h : wrap32 n = n') : Calls Try.prog 44 #[.int .i64 n] w fun e w' => e = .returned (.int .i64 n') ∧ w = w' := by
  subst h
  refine (signed_ob n w).mono ?_
  rintro e w' ⟨h1, h2⟩
  first
    | exact ⟨h1, h2⟩
    | exact ⟨h1, h2.symm⟩

set_option maxHeartbeats 4000000 in
theorem asked_any (r : Re) (A : Int) (s : List Sy) (mb : Nat) (D : DataW Unit) (w : World) (hA : 0 ≤ A) (hm : w.ownsMap Try.prog 9 (plainElem Try.prog 3) mb s.length D) (hp : PM D s) (hnl : r.name.length ≤ maxLen) (hz24 : r.size = 2 ∨ r.size = 4) :
    Calls Try.prog 47 #[.agg #[.int .i64 r.pos, .int .i64 r.size, .string ⟨r.name.toArray⟩, .int .i64 r.add], .int .i64 A, .map (some mb)] w fun e w' => ∃ n x, e = .returned (.tuple #[.int .i64 n, .int .i64 x]) ∧ Below w.heap.size w w' ∧ AskedR s A r n x := by
  obtain ⟨rp, rz, rn, ra⟩ := r
  simp only at *
  have hkey : keyOf Try.prog 9 (.string ⟨rn.toArray⟩) = some (.string rn) := Go.WideMaps.keyOf_string_mk Try.underlying9 (s := ⟨rn.toArray⟩) (by simpa [ByteArray.size] using hnl)
  have hhas := hp.has rn
  have HAT := Lib.hid (hp.at' rn (.lit (.int .i64 0)))
  have HMA := Lib.hid (hm.alloc (.cells #[.int .i64 rp, .int .i64 rz, .string ⟨rn.toArray⟩, .int .i64 ra] 51))
  have HB := Lib.hid (oalloc w (.cells #[.int .i64 rp, .int .i64 rz, .string ⟨rn.toArray⟩, .int .i64 ra] 51))
  clear hm hp hnl
  obtain ⟨p, HPP⟩ : ∃ p, Hid ((if rn = [] then A else whereL rn s) = p) := ⟨_, rfl⟩
  have HPA : Hid (rn = [] → p = A) := fun h => by rw [← HPP.out, if_pos h]
  have HPW : Hid (rn ≠ [] → p = whereL rn s) := fun h => by rw [← HPP.out, if_neg h]
  obtain ⟨n, HNN⟩ : ∃ n, Hid (wrap32 (p + ra) = n) := ⟨_, rfl⟩
  have HQ6 : Hid (p < 0 → ∀ n, AskedR s A ⟨rp, rz, rn, ra⟩ n 6) := fun h n => asked6 n HPP.out h
  have HQ3 : Hid (¬ p < 0 → rz = 2 ∧ (65535 < n ∨ n < -32768) → ∀ n, AskedR s A ⟨rp, rz, rn, ra⟩ n 3) := fun h h2 n => asked3 n HPP.out h (by rw [HNN.out]; exact h2)
  have HQ0 : Hid (¬ p < 0 → ¬ (rz = 2 ∧ (65535 < n ∨ n < -32768)) → AskedR s A ⟨rp, rz, rn, ra⟩ n 0) := fun h h2 => by
    have := asked0 (r := ⟨rp, rz, rn, ra⟩) HPP.out h (by rw [HNN.out]; exact h2)
    rwa [HNN.out] at this
  clear HPP
  go_enter Try.func47, Try.ntmps47
  by_cases hn0 : rn = []
  · have n1 : (rn == []) = true := by simpa using hn0
    obtain rfl := HPA.out hn0
    have hp0 : ¬ p < 0 := by omega
    clear hn0 HPA HPW HQ6
    by_cases hfar : rz = 2 ∧ (65535 < n ∨ n < -32768)
    · have HQ := Lib.hid (HQ3.out hp0 hfar 0)
      obtain ⟨rfl, hfar⟩ := hfar
      by_cases hf1 : n < -32768
      · clear hfar hz24
        go_wp2_with (first | (go_at_call 44; refine (signed_as _ n _ (by first | exact HNN.out | (rw [wrap32_w]; exact HNN.out))).mono ?_; rintro e w5 ⟨rfl, rfl⟩) | fail)
        go_ret2
        exact ⟨0, 3, rfl, HB.out, HQ.out⟩
      · have hf2 : 65535 < n := by omega
        clear hfar hz24
        go_wp2_with (first | (go_at_call 44; refine (signed_as _ n _ (by first | exact HNN.out | (rw [wrap32_w]; exact HNN.out))).mono ?_; rintro e w5 ⟨rfl, rfl⟩) | fail)
        go_ret2
        exact ⟨0, 3, rfl, HB.out, HQ.out⟩
    · have HQ := Lib.hid (HQ0.out hp0 hfar)
      rcases hz24 with rfl | rfl
      · have hf1 : ¬ 65535 < n := by omega
        have hf2 : ¬ n < -32768 := by omega
        clear hfar
        go_wp2_with (first | (go_at_call 44; refine (signed_as _ n _ (by first | exact HNN.out | (rw [wrap32_w]; exact HNN.out))).mono ?_; rintro e w5 ⟨rfl, rfl⟩) | fail)
        go_ret2
        exact ⟨n, 0, rfl, HB.out, HQ.out⟩
      · clear hfar
        go_wp2_with (first | (go_at_call 44; refine (signed_as _ n _ (by first | exact HNN.out | (rw [wrap32_w]; exact HNN.out))).mono ?_; rintro e w5 ⟨rfl, rfl⟩) | fail)
        go_ret2
        exact ⟨n, 0, rfl, HB.out, HQ.out⟩
  · have n1 : (rn == []) = false := by simpa using hn0
    have hpw := HPW.out hn0
    rw [← hpw] at hhas HAT
    clear hn0 HPA HPW hpw
    by_cases hp0 : p < 0
    · have hq := HQ6.out hp0 0
      have HQ := Lib.hid hq
      rw [decide_eq_false (by omega)] at hhas
      clear hq
      go_wp2_with (first | (at_lookup; refine wpList_lookup_own_ok_int _ rfl _ _ 66 rfl 9 3 .i64 lawS Try.underlying66 Try.underlying3 (zeroI _) mb s.length D rfl HMA.out _ _ rfl hkey ?_; intro c hat _; rw [hhas]; clear hat) | fail)
      go_ret2
      exact ⟨0, 6, rfl, HB.out, HQ.out⟩
    · rw [decide_eq_true (by omega)] at hhas
      have HAT2 := Lib.hid (HAT.out (by omega))
      by_cases hfar : rz = 2 ∧ (65535 < n ∨ n < -32768)
      · have HQ := Lib.hid (HQ3.out hp0 hfar 0)
        obtain ⟨rfl, hfar⟩ := hfar
        by_cases hf1 : n < -32768
        · clear hfar hz24
          go_wp2_with (first | (at_lookup; refine wpList_lookup_own_ok_int _ rfl _ _ 66 rfl 9 3 .i64 lawS Try.underlying66 Try.underlying3 (zeroI _) mb s.length D rfl HMA.out _ _ rfl hkey ?_; intro c hat _; rw [hhas]; rw [HAT2.out] at hat; injection hat with hat; injection hat with _ hat; subst hat) | (go_at_call 44; refine (signed_as _ n _ (by first | exact HNN.out | (rw [wrap32_w]; exact HNN.out))).mono ?_; rintro e w5 ⟨rfl, rfl⟩) | fail)
          go_ret2
          exact ⟨0, 3, rfl, HB.out, HQ.out⟩
        · have hf2 : 65535 < n := by omega
          clear hfar hz24
          go_wp2_with (first | (at_lookup; refine wpList_lookup_own_ok_int _ rfl _ _ 66 rfl 9 3 .i64 lawS Try.underlying66 Try.underlying3 (zeroI _) mb s.length D rfl HMA.out _ _ rfl hkey ?_; intro c hat _; rw [hhas]; rw [HAT2.out] at hat; injection hat with hat; injection hat with _ hat; subst hat) | (go_at_call 44; refine (signed_as _ n _ (by first | exact HNN.out | (rw [wrap32_w]; exact HNN.out))).mono ?_; rintro e w5 ⟨rfl, rfl⟩) | fail)
          go_ret2
          exact ⟨0, 3, rfl, HB.out, HQ.out⟩
      · have HQ := Lib.hid (HQ0.out hp0 hfar)
        rcases hz24 with rfl | rfl
        · have hf1 : ¬ 65535 < n := by omega
          have hf2 : ¬ n < -32768 := by omega
          clear hfar
          go_wp2_with (first | (at_lookup; refine wpList_lookup_own_ok_int _ rfl _ _ 66 rfl 9 3 .i64 lawS Try.underlying66 Try.underlying3 (zeroI _) mb s.length D rfl HMA.out _ _ rfl hkey ?_; intro c hat _; rw [hhas]; rw [HAT2.out] at hat; injection hat with hat; injection hat with _ hat; subst hat) | (go_at_call 44; refine (signed_as _ n _ (by first | exact HNN.out | (rw [wrap32_w]; exact HNN.out))).mono ?_; rintro e w5 ⟨rfl, rfl⟩) | fail)
          go_ret2
          exact ⟨n, 0, rfl, HB.out, HQ.out⟩
        · clear hfar
          go_wp2_with (first | (at_lookup; refine wpList_lookup_own_ok_int _ rfl _ _ 66 rfl 9 3 .i64 lawS Try.underlying66 Try.underlying3 (zeroI _) mb s.length D rfl HMA.out _ _ rfl hkey ?_; intro c hat _; rw [hhas]; rw [HAT2.out] at hat; injection hat with hat; injection hat with _ hat; subst hat) | (go_at_call 44; refine (signed_as _ n _ (by first | exact HNN.out | (rw [wrap32_w]; exact HNN.out))).mono ?_; rintro e w5 ⟨rfl, rfl⟩) | fail)
          go_ret2
          exact ⟨n, 0, rfl, HB.out, HQ.out⟩
end Go.Proofs.Ytalghejeekajgad
