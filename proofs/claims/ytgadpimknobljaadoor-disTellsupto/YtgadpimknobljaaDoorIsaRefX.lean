/- The contract of the document's own Wrong, whole. -/
import Derived.Test.YtgadpimknobljaaDoorIsaRefW
namespace Go.Proofs.YtgadpimknobljaaDoor.Isa
open Go.RowKit

theorem wrongI_3 {op n m imm : Int} (hk : knownB op = true) (h : ¬ (0 ≤ n ∧ n ≤ layN (opShape op) ∧ 0 ≤ m ∧ m ≤ layM (opShape op) ∧ layLow (opShape op) ≤ imm ∧ imm ≤ layHigh (opShape op))) : wrongI op n m imm = 3 := by
  unfold wrongI
  rw [if_pos hk, if_neg]
  simp only [withinB, decide_eq_true_eq]
  intro h'
  exact h (by omega)

theorem wrongI_0 {op n m imm : Int} (hk : knownB op = true) (h : 0 ≤ n ∧ n ≤ layN (opShape op) ∧ 0 ≤ m ∧ m ≤ layM (opShape op) ∧ layLow (opShape op) ≤ imm ∧ imm ≤ layHigh (opShape op)) : wrongI op n m imm = 0 := by
  unfold wrongI
  rw [if_pos hk, if_pos]
  simp only [withinB, decide_eq_true_eq]
  omega

set_option maxHeartbeats 4000000 in
theorem rWrong_yes (op n m imm : Int) (w : World) (hk : knownB op = true) :
    Calls Tryd.prog 6 #[.agg #[.int .i64 op, .int .i64 n, .int .i64 m, .int .i64 imm]] w fun e w' => e = .returned (.int .i64 (wrongI op n m imm)) ∧ Below w.heap.size w w' := by
  have HK : Hid (knownB op = true) := hk
  have hop : 1 ≤ op ∧ op ≤ 27 := by simpa [knownB, withinB] using hk
  obtain ⟨r1, r2, r3, r4⟩ := has_regs op hop.1 hop.2
  have HR : Hid (hasB (refBits op) 110 = (layN (opShape op) != 0) ∧ hasB (refBits op) 109 = (layM (opShape op) != 0)) := ⟨r1, r2⟩
  have HS : Hid ((layN (opShape op) = 0 ∨ layN (opShape op) = 15) ∧ (layM (opShape op) = 0 ∨ layM (opShape op) = 15)) := ⟨r3, r4⟩
  have hsz : (refBits op).size ≤ maxLen := by have := refBits_size op (by omega) hop.2; unfold maxLen; omega
  have HI : Hid (infoShape op = opShape op ∧ refTxt op = refBits op) := by simp [Hid, infoShape, refTxt, hk]
  clear r1 r2 r3 r4 hk hop
  go_enter Tryd.func6, Tryd.ntmps6
  go_wp2_with fail
  go_cut [3, 4] (fun s3 s4 wc => ∃ g, s3 = .pointer (some ⟨g, 0, none⟩) ∧ s4 = .bool (knownB op) ∧ RowIn w op n m imm g wc)
  case first =>
    go_region_held3 (fun w' => w.heap.size < w'.heap.size ∧ w'.cell? ⟨w.heap.size, 0, none⟩ = some (.int .i64 op) ∧ w'.cell? ⟨w.heap.size, 1, none⟩ = some (.int .i64 n) ∧ w'.cell? ⟨w.heap.size, 2, none⟩ = some (.int .i64 m) ∧ w'.cell? ⟨w.heap.size, 3, none⟩ = some (.int .i64 imm) ∧ Below w.heap.size w w')
      (first | exact startBox w _ _ _ _ | assumption | exact keepBox hb1 (by assumption) | exact keepBox ((Below.refl _ _).alloc (Nat.le_refl _) _) (by assumption) | exact keepBox ((Below.refl _ _).alloc (Nat.le_refl _) _) (keepBox hb1 (startBox w _ _ _ _)) | exact keepSet (by omega) (keepSet (by omega) (keepSet (by omega) (by assumption))))
      ((go_at_call 21; refine (rows_let _).mono ?_; rintro e w1 ⟨g, rfl, hg1, hb1, hg2, hg3⟩; have hl1 := fun k => run_look_ok w1 g k hg1; have hl2 := fun O k => run_look_ok (w1.alloc O) g k (look_alloc hg1 hg2 O); obtain ⟨hc1, hf1⟩ := bcell hb1))
    all_goals
      have hz1 := hb1.size
      simp at hz1
      go_wp2_with fail
      go_meet
    · exact ⟨_, rfl, rfl, rowIn_new (by omega) (by assumption)⟩
    · exact ⟨_, rfl, rfl, rowIn_new (by omega) (by assumption)⟩
    · rename_i hH
      obtain ⟨q0, q1, q2⟩ := set3 (x := w1) (g := w.heap.size + 1) (a := .string (infoName op)) (b := .int .i64 (infoShape op)) (c := .string (refTxt op)) (u0 := .string ⟨#[]⟩) (u1 := .int .i64 0) (u2 := .string ⟨#[]⟩) (by rw [hc1 _ _ (by simp)]; simp) (by rw [hc1 _ _ (by simp)]; simp) (by rw [hc1 _ _ (by simp)]; simp)
      exact ⟨_, rfl, rfl, hH, by simp; omega, by omega, q0, q1, q2⟩
  case rest =>
    obtain ⟨g, rfl, rfl, ⟨⟨z0, b0, b1, b2, b3, hB⟩, z1, z2, g0, g1, g2⟩⟩ := hcut
    rw [HK.out]
    rw [HI.out.1] at g1
    rw [HI.out.2] at g2
    have HB : Hid (Below w.heap.size w wc) := hB
    clear hB
    by_cases h0 : n < 0
    · have HW : Hid (wrongI op n m imm = 3) := wrongI_3 HK.out (by have := HS.out; omega)
      go_wp2_with (first | (go_at_call 22; refine (rRange_any _ _).mono ?_; rintro e w' ⟨rfl, rfl⟩) | (go_at_call 23; refine (has_any _ _ _ hsz).mono ?_; rintro e w' ⟨rfl, rfl⟩))
      go_ret
      exact ⟨ret_int HW.out.symm, HB.out⟩
    by_cases h1 : 15 < n
    · have HW : Hid (wrongI op n m imm = 3) := wrongI_3 HK.out (by have := HS.out; omega)
      go_wp2_with (first | (go_at_call 22; refine (rRange_any _ _).mono ?_; rintro e w' ⟨rfl, rfl⟩) | (go_at_call 23; refine (has_any _ _ _ hsz).mono ?_; rintro e w' ⟨rfl, rfl⟩))
      go_ret
      exact ⟨ret_int HW.out.symm, HB.out⟩
    by_cases h2 : m < 0
    · have HW : Hid (wrongI op n m imm = 3) := wrongI_3 HK.out (by have := HS.out; omega)
      go_wp2_with (first | (go_at_call 22; refine (rRange_any _ _).mono ?_; rintro e w' ⟨rfl, rfl⟩) | (go_at_call 23; refine (has_any _ _ _ hsz).mono ?_; rintro e w' ⟨rfl, rfl⟩))
      go_ret
      exact ⟨ret_int HW.out.symm, HB.out⟩
    by_cases h3 : 15 < m
    · have HW : Hid (wrongI op n m imm = 3) := wrongI_3 HK.out (by have := HS.out; omega)
      go_wp2_with (first | (go_at_call 22; refine (rRange_any _ _).mono ?_; rintro e w' ⟨rfl, rfl⟩) | (go_at_call 23; refine (has_any _ _ _ hsz).mono ?_; rintro e w' ⟨rfl, rfl⟩))
      go_ret
      exact ⟨ret_int HW.out.symm, HB.out⟩
    by_cases h4 : imm < layLow (opShape op)
    · have HW : Hid (wrongI op n m imm = 3) := wrongI_3 HK.out (by have := HS.out; omega)
      go_wp2_with (first | (go_at_call 22; refine (rRange_any _ _).mono ?_; rintro e w' ⟨rfl, rfl⟩) | (go_at_call 23; refine (has_any _ _ _ hsz).mono ?_; rintro e w' ⟨rfl, rfl⟩))
      go_ret
      exact ⟨ret_int HW.out.symm, HB.out⟩
    by_cases h5 : layHigh (opShape op) < imm
    · have HW : Hid (wrongI op n m imm = 3) := wrongI_3 HK.out (by have := HS.out; omega)
      go_wp2_with (first | (go_at_call 22; refine (rRange_any _ _).mono ?_; rintro e w' ⟨rfl, rfl⟩) | (go_at_call 23; refine (has_any _ _ _ hsz).mono ?_; rintro e w' ⟨rfl, rfl⟩))
      go_ret
      exact ⟨ret_int HW.out.symm, HB.out⟩
    have e1 : hasB (refBits op) 110 = (layN (opShape op) != 0) := HR.out.1
    have e2 : hasB (refBits op) 109 = (layM (opShape op) != 0) := HR.out.2
    by_cases hn : n = 0
    · have hn' : (n != 0) = false := by simpa using hn
      by_cases hm : m = 0
      · have hm' : (m != 0) = false := by simpa using hm
        have HW : Hid (wrongI op n m imm = 0) := wrongI_0 HK.out (by have := HS.out; omega)
        go_wp2_with (first | (go_at_call 22; refine (rRange_any _ _).mono ?_; rintro e w' ⟨rfl, rfl⟩) | (go_at_call 23; refine (has_any _ _ _ hsz).mono ?_; rintro e w' ⟨rfl, rfl⟩))
        go_ret
        exact ⟨ret_int HW.out.symm, HB.out⟩
      · have hm' : (m != 0) = true := by simpa using hm
        by_cases hM : layM (opShape op) = 0
        · have hM' : (layM (opShape op) != 0) = false := by simpa using hM
          have HW : Hid (wrongI op n m imm = 3) := wrongI_3 HK.out (by have := HS.out; omega)
          rw [hM'] at e2
          clear hM hM' hn hm
          go_wp2_with (first | (go_at_call 22; refine (rRange_any _ _).mono ?_; rintro e w' ⟨rfl, rfl⟩) | (go_at_call 23; refine (has_any _ _ _ hsz).mono ?_; rintro e w' ⟨rfl, rfl⟩))
          go_ret
          exact ⟨ret_int HW.out.symm, HB.out⟩
        · have hM' : (layM (opShape op) != 0) = true := by simpa using hM
          have HW : Hid (wrongI op n m imm = 0) := wrongI_0 HK.out (by have := HS.out; omega)
          rw [hM'] at e2
          clear hM hM' hn hm
          go_wp2_with (first | (go_at_call 22; refine (rRange_any _ _).mono ?_; rintro e w' ⟨rfl, rfl⟩) | (go_at_call 23; refine (has_any _ _ _ hsz).mono ?_; rintro e w' ⟨rfl, rfl⟩))
          go_ret
          exact ⟨ret_int HW.out.symm, HB.out⟩
    · have hn' : (n != 0) = true := by simpa using hn
      by_cases hN : layN (opShape op) = 0
      · have hN' : (layN (opShape op) != 0) = false := by simpa using hN
        have HW : Hid (wrongI op n m imm = 3) := wrongI_3 HK.out (by have := HS.out; omega)
        rw [hN'] at e1
        clear hN hN' hn
        go_wp2_with (first | (go_at_call 22; refine (rRange_any _ _).mono ?_; rintro e w' ⟨rfl, rfl⟩) | (go_at_call 23; refine (has_any _ _ _ hsz).mono ?_; rintro e w' ⟨rfl, rfl⟩))
        go_ret
        exact ⟨ret_int HW.out.symm, HB.out⟩
      · have hN' : (layN (opShape op) != 0) = true := by simpa using hN
        rw [hN'] at e1
        by_cases hm : m = 0
        · have hm' : (m != 0) = false := by simpa using hm
          have HW : Hid (wrongI op n m imm = 0) := wrongI_0 HK.out (by have := HS.out; omega)
          clear hN hN' hn hm
          go_wp2_with (first | (go_at_call 22; refine (rRange_any _ _).mono ?_; rintro e w' ⟨rfl, rfl⟩) | (go_at_call 23; refine (has_any _ _ _ hsz).mono ?_; rintro e w' ⟨rfl, rfl⟩))
          go_ret
          exact ⟨ret_int HW.out.symm, HB.out⟩
        · have hm' : (m != 0) = true := by simpa using hm
          by_cases hM : layM (opShape op) = 0
          · have hM' : (layM (opShape op) != 0) = false := by simpa using hM
            have HW : Hid (wrongI op n m imm = 3) := wrongI_3 HK.out (by have := HS.out; omega)
            rw [hM'] at e2
            clear hM hM' hn hm hN hN'
            go_wp2_with (first | (go_at_call 22; refine (rRange_any _ _).mono ?_; rintro e w' ⟨rfl, rfl⟩) | (go_at_call 23; refine (has_any _ _ _ hsz).mono ?_; rintro e w' ⟨rfl, rfl⟩))
            go_ret
            exact ⟨ret_int HW.out.symm, HB.out⟩
          · have hM' : (layM (opShape op) != 0) = true := by simpa using hM
            have HW : Hid (wrongI op n m imm = 0) := wrongI_0 HK.out (by have := HS.out; omega)
            rw [hM'] at e2
            clear hM hM' hn hm hN hN'
            go_wp2_with (first | (go_at_call 22; refine (rRange_any _ _).mono ?_; rintro e w' ⟨rfl, rfl⟩) | (go_at_call 23; refine (has_any _ _ _ hsz).mono ?_; rintro e w' ⟨rfl, rfl⟩))
            go_ret
            exact ⟨ret_int HW.out.symm, HB.out⟩

theorem rWrong_any (op n m imm : Int) (w : World) :
    Calls Tryd.prog 6 #[.agg #[.int .i64 op, .int .i64 n, .int .i64 m, .int .i64 imm]] w fun e w' => e = .returned (.int .i64 (wrongI op n m imm)) ∧ Below w.heap.size w w' := by
  cases hk : knownB op
  · have e1 : wrongI op n m imm = 1 := by simp [wrongI, hk]
    rw [e1]
    exact rWrong_no op n m imm w hk
  · exact rWrong_yes op n m imm w hk

end Go.Proofs.YtgadpimknobljaaDoor.Isa
