/- The document's own Link. -/
import Derived.Test.YtalghejeekajgadLkF
namespace Go.Proofs.Ytalghejeekajgad
open Go.RowKit

set_option maxRecDepth 100000 in
set_option maxHeartbeats 40000000 in
theorem rlink_any (l : List Ob) (v : Value) (base : Int) (w : World) (hv : OObs w v l) :
    Calls Try.prog 11 #[v, .int .i64 base] w fun e w' => LinkEnd w base (linkL nameR l base) e w' := by
  obtain ⟨ad, cap, rfl, hm, hc⟩ := id hv
  have HV := Lib.hid hv
  have HC := Lib.hid hc
  unfold maxLen at hm
  clear hc hv
  have HL0 := Lib.hid (LB.new w)
  go_enter Try.func11, Try.ntmps11
  by_cases hbase : base < 0 ∨ 1048576 < base ∨ base % 4 ≠ 0
  · have HX : Hid (linkL nameR l base = .error (3, 0)) := by unfold Hid linkL; rw [if_pos hbase]
    rcases hbase with h | h | h
    · go_wp2_with (go_at_call 30; refine (rno_any _ _ _).mono ?_; unfold noV; rintro e w1 ⟨rfl, hb1⟩; have HL1 := Lib.hid (HL0.out.go hb1); obtain ⟨n0, n1, n2, n3, n4, f0, f1, f2, f3, f4⟩ := HL1.out.cells; have hz := HL1.out.lt; clear hb1)
      refine bodyPost_ret (v := .tuple #[.agg #[.int .i64 0, .slice none 0 0, .slice none 0 0], .agg #[.int .i64 (3), .int .i64 (0)]]) (by simp [results, Try.results11, go_sem, n0, n1, n2, n3, n4]) rfl ?_
      exact ⟨HL1.out.five _ _ _ _ _, by rw [HX.out]; rfl⟩
    · have h0 : ¬ base < 0 := by omega
      go_wp2_with (go_at_call 30; refine (rno_any _ _ _).mono ?_; unfold noV; rintro e w1 ⟨rfl, hb1⟩; have HL1 := Lib.hid (HL0.out.go hb1); obtain ⟨n0, n1, n2, n3, n4, f0, f1, f2, f3, f4⟩ := HL1.out.cells; have hz := HL1.out.lt; clear hb1)
      refine bodyPost_ret (v := .tuple #[.agg #[.int .i64 0, .slice none 0 0, .slice none 0 0], .agg #[.int .i64 (3), .int .i64 (0)]]) (by simp [results, Try.results11, go_sem, n0, n1, n2, n3, n4]) rfl ?_
      exact ⟨HL1.out.five _ _ _ _ _, by rw [HX.out]; rfl⟩
    · by_cases h0 : base < 0
      · go_wp2_with (go_at_call 30; refine (rno_any _ _ _).mono ?_; unfold noV; rintro e w1 ⟨rfl, hb1⟩; have HL1 := Lib.hid (HL0.out.go hb1); obtain ⟨n0, n1, n2, n3, n4, f0, f1, f2, f3, f4⟩ := HL1.out.cells; have hz := HL1.out.lt; clear hb1)
        refine bodyPost_ret (v := .tuple #[.agg #[.int .i64 0, .slice none 0 0, .slice none 0 0], .agg #[.int .i64 (3), .int .i64 (0)]]) (by simp [results, Try.results11, go_sem, n0, n1, n2, n3, n4]) rfl ?_
        exact ⟨HL1.out.five _ _ _ _ _, by rw [HX.out]; rfl⟩
      · by_cases h1 : 1048576 < base
        · go_wp2_with (go_at_call 30; refine (rno_any _ _ _).mono ?_; unfold noV; rintro e w1 ⟨rfl, hb1⟩; have HL1 := Lib.hid (HL0.out.go hb1); obtain ⟨n0, n1, n2, n3, n4, f0, f1, f2, f3, f4⟩ := HL1.out.cells; have hz := HL1.out.lt; clear hb1)
          refine bodyPost_ret (v := .tuple #[.agg #[.int .i64 0, .slice none 0 0, .slice none 0 0], .agg #[.int .i64 (3), .int .i64 (0)]]) (by simp [results, Try.results11, go_sem, n0, n1, n2, n3, n4]) rfl ?_
          exact ⟨HL1.out.five _ _ _ _ _, by rw [HX.out]; rfl⟩
        · have h2 : 0 < base.tmod 4 := by rw [Int.tmod_eq_emod_of_nonneg (by omega)]; omega
          go_wp2_with (go_at_call 30; refine (rno_any _ _ _).mono ?_; unfold noV; rintro e w1 ⟨rfl, hb1⟩; have HL1 := Lib.hid (HL0.out.go hb1); obtain ⟨n0, n1, n2, n3, n4, f0, f1, f2, f3, f4⟩ := HL1.out.cells; have hz := HL1.out.lt; clear hb1)
          refine bodyPost_ret (v := .tuple #[.agg #[.int .i64 0, .slice none 0 0, .slice none 0 0], .agg #[.int .i64 (3), .int .i64 (0)]]) (by simp [results, Try.results11, go_sem, n0, n1, n2, n3, n4]) rfl ?_
          exact ⟨HL1.out.five _ _ _ _ _, by rw [HX.out]; rfl⟩
  · have h0 : ¬ base < 0 := by omega
    have h1 : ¬ 1048576 < base := by omega
    have h2 : ¬ 0 < base.tmod 4 := by rw [Int.tmod_eq_emod_of_nonneg (by omega)]; omega
    have hb4 : base % 4 = 0 := by omega
    have HX0 : Hid (linkL nameR l base = if l.length = 0 ∨ 4 < l.length then .error (5, 0) else linkM nameR l base) := by unfold Hid; rw [linkL, if_neg hbase]
    clear hbase
    by_cases hn : l.length = 0 ∨ 4 < l.length
    · have HX : Hid (linkL nameR l base = .error (5, 0)) := by unfold Hid; rw [HX0.out, if_pos hn]
      by_cases hn0 : l.length = 0
      · obtain rfl : l = [] := List.length_eq_zero_iff.1 hn0
        simp only [List.length_nil] at *
        go_wp2_with (go_at_call 30; refine (rno_any _ _ _).mono ?_; unfold noV; rintro e w1 ⟨rfl, hb1⟩; have HL1 := Lib.hid (HL0.out.go hb1); obtain ⟨n0, n1, n2, n3, n4, f0, f1, f2, f3, f4⟩ := HL1.out.cells; have hz := HL1.out.lt; clear hb1)
        refine bodyPost_ret (v := .tuple #[.agg #[.int .i64 0, .slice none 0 0, .slice none 0 0], .agg #[.int .i64 (5), .int .i64 (0)]]) (by simp [results, Try.results11, go_sem, n0, n1, n2, n3, n4]) rfl ?_
        exact ⟨HL1.out.five _ _ _ _ _, by rw [HX.out]; rfl⟩
      · have hn1 : ¬ (l.length : Int) = 0 := by omega
        have hn2 : (4 : Int) < l.length := by omega
        go_wp2_with (go_at_call 30; refine (rno_any _ _ _).mono ?_; unfold noV; rintro e w1 ⟨rfl, hb1⟩; have HL1 := Lib.hid (HL0.out.go hb1); obtain ⟨n0, n1, n2, n3, n4, f0, f1, f2, f3, f4⟩ := HL1.out.cells; have hz := HL1.out.lt; clear hb1)
        refine bodyPost_ret (v := .tuple #[.agg #[.int .i64 0, .slice none 0 0, .slice none 0 0], .agg #[.int .i64 (5), .int .i64 (0)]]) (by simp [results, Try.results11, go_sem, n0, n1, n2, n3, n4]) rfl ?_
        exact ⟨HL1.out.five _ _ _ _ _, by rw [HX.out]; rfl⟩
    · have hn1 : ¬ (l.length : Int) = 0 := by omega
      have hn2 : ¬ (4 : Int) < l.length := by omega
      have hn3 : ¬ l.length = 0 := by omega
      have HX1 := Lib.hid (HX0.out.trans (if_neg hn))
      have hn4 : l.length ≤ 4 := by omega
      clear HX0 hn h2
      go_wp2_with fail
      go_loopw [52] (fun i wr => ∃ k : Nat, k ≤ l.length ∧ i = .int .i64 k ∧ Hid (LB w wr) ∧ Hid (wrongAt nameR 0 l = wrongAt nameR k (l.drop k))) (fun i _ => l.length - (intOf i).toNat)
      case atStart => exact ⟨0, Nat.zero_le _, rfl, HL0, rfl⟩
      case round =>
        obtain ⟨k, hk, rfl, HL, HE⟩ := hrel
        clear HL0
        by_cases hlt : k < l.length
        · have hk1 : (k : Int) < l.length := by omega
          obtain ⟨b, f, rfl, hbl, hcell⟩ := HC.out (by omega)
          obtain ⟨c, s, r, c0, c1, c2, hin⟩ := hcell k hlt
          rw [← HL.out.bel.cell (by exact hbl)] at c0 c1 c2
          have hbw : b < wr.heap.size := Nat.lt_of_lt_of_le hbl HL.out.bel.size
          have HE2 := Lib.hid (HE.out.trans (wrongAt_at hlt))
          have hin2 := (hin.below HL.out.bel (Nat.le_refl _)).below (oalloc wr (.cells #[c, s, r] 26)) (Nat.le_refl _)
          have HW := Lib.hid (rwrong_any l[k] c s r (wr.alloc (.cells #[c, s, r] 26)) hin2.1 hin2.2.1 hin2.2.2)
          have HLA := Lib.hid (HL.out.go (oalloc wr (.cells #[c, s, r] 26)))
          obtain ⟨q1, q2, rfl, q3⟩ := hin.1
          obtain ⟨q4, q5, rfl, q6⟩ := hin.2.1
          obtain ⟨q7, q8, rfl, q9⟩ := hin.2.2
          clear q3 q6 q9 hin hcell hin2 HE HL
          unfold obV at HW
          by_cases hw0 : wrongO nameR l[k] = 0
          · have HE3 := Lib.hid (HE2.out.trans (if_pos hw0))
            rw [hw0] at HW
            clear HE2
            go_wp2_with (first | (go_at_call 31; refine HW.out.mono ?_; rintro e w1 ⟨rfl, hb1⟩; have HLB := Lib.hid (HLA.out.go hb1); clear hb1) | fail)
            exact ⟨⟨k + 1, by omega, by go_num, HLB, HE3⟩, by simp [intOf]; omega⟩
          · have HX : Hid (linkL nameR l base = .error (wrongO nameR l[k], k)) := by unfold Hid; rw [HX1.out, linkM, HE2.out, if_neg hw0]
            clear HE2
            generalize wrongO nameR l[k] = er at *
            go_wp2_with (first | (go_at_call 31; refine HW.out.mono ?_; rintro e w0 ⟨rfl, hb0⟩; have HLB := Lib.hid (HLA.out.go hb0); clear hb0) | (go_at_call 30; refine (rno_any _ _ _).mono ?_; unfold noV; rintro e w1 ⟨rfl, hb1⟩; have HL1 := Lib.hid (HLB.out.go hb1); obtain ⟨n0, n1, n2, n3, n4, f0, f1, f2, f3, f4⟩ := HL1.out.cells; have hz := HL1.out.lt; clear hb1))
            refine bodyPost_ret (v := .tuple #[.agg #[.int .i64 0, .slice none 0 0, .slice none 0 0], .agg #[.int .i64 er, .int .i64 k]]) (by simp [results, Try.results11, go_sem, n0, n1, n2, n3, n4]) rfl ?_
            exact ⟨HL1.out.five _ _ _ _ _, by rw [HX.out]; rfl⟩
        · have hk1 : ¬ (k : Int) < l.length := by omega
          have HNW : Hid (wrongAt nameR 0 l = none) := by unfold Hid; rw [HE.out, List.drop_eq_nil_of_le (by omega)]; rfl
          clear HE
          have HR := Lib.hid (wrongAt_none l 0 HNW.out)
          have hend : endL base l ≤ 1048576 + 4 * 8003 := by
            have := endL_le l base (fun o ho => (wrongO_few (HR.out o ho)).1)
            omega
          have HBAS := Lib.hid (rbases_any l (.slice ad l.length cap) base wr (HV.out.below HL.out.bel (Nat.le_refl _)) (by omega) (by omega) (by omega))
          have HX2 : Hid (linkL nameR l base = linkR l base) := by unfold Hid; rw [HX1.out, linkM, HNW.out]
          clear HX1 HNW
          go_wp2_with (first | (go_at_call 14; refine HBAS.out.mono ?_; rintro e w1 ⟨xb, rfl, hb1, ho1⟩; obtain ⟨gb, capb, rfl, hgb, hcb⟩ := ints_read ho1 (by omega) (basesL_len l base); have HL1 := Lib.hid (HL.out.go hb1); have HCB := Lib.hid hcb; clear hb1 ho1 hcb HBAS) | fail)
          have HLO0 := Lib.hid (LO.new w1 base)
          have HOB := Lib.hid (HV.out.below HL1.out.bel (Nat.le_refl _))
          clear HC HV HL
          go_loopw [78] (fun i W => ∃ (k : Nat) (b : List UInt8) (s : List Sy) (bv sv : Value), k ≤ l.length ∧ i = .int .i64 k ∧ Hid ((b.length : Int) = endL base (l.take k) - base ∧ s.length ≤ 255 * k) ∧ Hid (LO w1 W base b s bv sv) ∧ Hid (layL base 0 [] [] (l.zip (basesL base l)) = layL base k b s ((l.zip (basesL base l)).drop k))) (fun i _ => l.length - (intOf i).toNat)
          case atStart => exact ⟨0, [], [], _, _, Nat.zero_le _, rfl, ⟨by simp [endL], by simp⟩, HLO0, rfl⟩
          case round =>
            obtain ⟨k, b, s, bv, sv, hk, rfl, HN, HLO, HE⟩ := hrel
            clear HLO0
            obtain ⟨w2, rfl⟩ : ∃ x, x = wr := ⟨_, rfl⟩
            by_cases hlt : k < l.length
            · have hk1 : (k : Int) < l.length := by omega
              obtain ⟨ad', cap', hv', _, hc⟩ := HOB.out
              obtain ⟨ob, of, had, hbl, hcell⟩ := hc (by omega)
              cases hv'
              subst had
              obtain ⟨c, sy, r, c0, c1, c2, hin⟩ := hcell k hlt
              rw [← HLO.out.bel.cell (by exact hbl)] at c0 c1 c2
              have hbw : ob < w2.heap.size := Nat.lt_of_lt_of_le hbl HLO.out.bel.size
              obtain ⟨q1, q2, rfl, q3⟩ := id hin.1
              obtain ⟨q4, q5, rfl, q6⟩ := id hin.2.1
              obtain ⟨q7, q8, rfl, q9⟩ := id hin.2.2
              clear q3 q6 q9 hcell hc
              have HIN := Lib.hid hin
              clear hin
              have HLX0 : Hid (LX w1 (w2.alloc (.cells #[.slice q1 l[k].code.length q2, .slice q4 l[k].syms.length q5, .slice q7 l[k].rels.length q8] 26)) base b s bv sv w2.heap.size (.slice q1 l[k].code.length q2) (.slice q4 l[k].syms.length q5) (.slice q7 l[k].rels.length q8)) :=
                ⟨HLO.out.go (oalloc _ _), blk_new _ _ _, by have := HLO.out.size; omega⟩
              have hfew := wrongO_few (HR.out l[k] (List.getElem_mem hlt))
              obtain ⟨hf1, hf2, hf3⟩ := hfew
              have HE2 := Lib.hid (HE.out.trans (layL_at hlt b s))
              have HBK := Lib.hid ((HCB.out k (by rw [basesL_len]; exact hlt)).trans (congrArg (fun x => some (Value.int .i64 x)) (basesL_at l base k hlt)))
              have hup := up4_le (endL base (l.take k))
              have hge := endL_ge (l.take k) base
              have hle := endL_upto l base k
              obtain ⟨hb1, hs1⟩ := HN.out
              have HEND := Lib.hid (endL_take l base k hlt)
              generalize hA : up4 (endL base (l.take k)) = A at *
              generalize endL base (l.take k) = En at *
              obtain ⟨P, hP⟩ : ∃ P : Nat, (P : Int) = A - base := ⟨(A - base).toNat, by omega⟩
              have hbP : b.length ≤ P := by omega
              have hP2 : P ≤ 2000000 := by omega
              clear HE HLO HN
              go_wp2_with fail
              clear c0 c1 c2
              go_loopw [] (fun W => ∃ (z : Nat) (bv' : Value), b.length + z ≤ P ∧ Hid (LX w1 W base (b ++ List.replicate z 0) s bv' sv w2.heap.size (.slice q1 l[k].code.length q2) (.slice q4 l[k].syms.length q5) (.slice q7 l[k].rels.length q8))) (fun W => padM W w1.heap.size P)
              case atStart => exact ⟨0, bv, by omega, by simpa using HLX0⟩
              case round =>
                obtain ⟨z, bv', hz, HLX⟩ := hrel
                clear HLX0
                obtain ⟨ba, bc, hbv⟩ := row_shape HLX.out.lo.by'.1
                have hlen : (b ++ List.replicate z (0 : UInt8)).length = b.length + z := by simp
                rw [hlen] at hbv
                subst hbv
                have c0 := HBK.out
                rw [← HLX.out.lo.bel.cell (by exact hgb)] at c0
                have c1 := HLX.out.lo.cells.2.1
                have hzw := HLX.out.lo.size
                by_cases hzz : b.length + z < P
                · have hz1 : ((b.length + z : Nat) : Int) < A - base := by omega
                  have HS : Hid (∀ nq, ∃ Wd : World, Wd = wr.drewN nq ∧ Wd.cell? ⟨w1.heap.size, 1, none⟩ = some (.slice ba (b.length + z) bc) ∧ w1.heap.size < Wd.heap.size ∧ ∃ ad' n' cap' W3, Hid (∀ ty, (Builtin.append_ #[22, 22] ty #[.slice ba (b.length + z) bc, .slice (some ⟨Wd.heap.size, 0, none⟩) 1 1]).run Try.prog (Wd.alloc (.cells #[.int .u8 0] 5)) = .ok (.slice ad' n' cap') W3) ∧
                      W3.cell? ⟨w1.heap.size, 1, none⟩ = some (.slice ba (b.length + z) bc) ∧ W3.frozen? ⟨w1.heap.size, 1, none⟩ = false ∧ Hid (LX w1 (W3.setCell ⟨w1.heap.size, 1, none⟩ (.slice ad' n' cap')) base (b ++ List.replicate (z + 1) 0) s (.slice ad' n' cap') sv w2.heap.size (.slice q1 l[k].code.length q2) (.slice q4 l[k].syms.length q5) (.slice q7 l[k].rels.length q8))) := fun nq => by
                    have h1 := HLX.out.draws nq
                    have h2 := h1.go (oalloc (wr.drewN nq) (.cells #[.int .u8 0] 5))
                    obtain ⟨v', W3, hr, g1, g2, g3, g4, g5⟩ := h2.lo.appB (obytes_new (wr.drewN nq)) (by simp; omega)
                    obtain ⟨ad', cap', rfl⟩ := row_shape g5.by'.1
                    refine ⟨_, rfl, h1.lo.cells.2.1, by have := h1.lo.size; omega, ad', _, cap', W3, hr, g1, g2, ⟨?_, g4 _ _ _ (by have := h2.far; omega) h2.ob (by decide), h2.far⟩⟩
                    rw [List.replicate_succ', ← List.append_assoc]
                    exact g5
                  have HM := Lib.hid (show ∀ W4 v', LX w1 W4 base (b ++ List.replicate (z + 1) 0) s v' sv w2.heap.size (.slice q1 l[k].code.length q2) (.slice q4 l[k].syms.length q5) (.slice q7 l[k].rels.length q8) → padM W4 w1.heap.size P < padM wr w1.heap.size P from fun W4 v' h4 => by
                    obtain ⟨ba4, bc4, rfl⟩ := row_shape h4.lo.by'.1
                    rw [padM_eq h4.lo.cells.2.1, padM_eq c1]
                    simp
                    omega)
                  clear HLX
                  go_wp2_with fail
                  go_quiet (fail)
                  obtain ⟨Wd, hWd, g0, gz, ad', n', cap', W3, HRUN, g1, g2, HLX⟩ := HS.out nq
                  rw [← hWd]
                  clear hWd c0 c1 HS hzw
                  go_wp2_with (first | (at_builtin; refine wpList_app_eq rfl _ _ _ _ rfl _ _ rfl rfl HRUN.out ?_) | fail)
                  exact ⟨⟨z + 1, _, by omega, HLX⟩, HM.out _ _ HLX.out⟩
                · have hz1 : ¬ ((b.length + z : Nat) : Int) < A - base := by omega
                  have HE3 : Hid (layL base 0 [] [] (l.zip (basesL base l)) = match addSyms A s l[k].syms with
                      | none => .error (7, k)
                      | some s' => layL base (k + 1) (b ++ List.replicate z 0 ++ l[k].code) s' ((l.zip (basesL base l)).drop (k + 1))) := by
                    unfold Hid
                    rw [HE2.out, show (A - base - (b.length : Int)).toNat = z by omega]
                    rfl
                  have HS : Hid (∀ nq, ∃ Wd : World, Wd = wr.drewN nq ∧ Wd.cell? ⟨w1.heap.size, 1, none⟩ = some (.slice ba (b.length + z) bc) ∧ Wd.cell? ⟨w2.heap.size, 0, none⟩ = some (.slice q1 l[k].code.length q2) ∧ w1.heap.size < Wd.heap.size ∧ w2.heap.size < Wd.heap.size ∧ ∃ ad' n' cap' W3, Hid (∀ ty, (Builtin.append_ #[22, 22] ty #[.slice ba (b.length + z) bc, .slice q1 l[k].code.length q2]).run Try.prog Wd = .ok (.slice ad' n' cap') W3) ∧
                      W3.cell? ⟨w1.heap.size, 1, none⟩ = some (.slice ba (b.length + z) bc) ∧ W3.frozen? ⟨w1.heap.size, 1, none⟩ = false ∧ W3.cell? ⟨w2.heap.size, 1, none⟩ = some (.slice q4 l[k].syms.length q5) ∧ Hid (LX w1 (W3.setCell ⟨w1.heap.size, 1, none⟩ (.slice ad' n' cap')) base (b ++ List.replicate z 0 ++ l[k].code) s (.slice ad' n' cap') sv w2.heap.size (.slice q1 l[k].code.length q2) (.slice q4 l[k].syms.length q5) (.slice q7 l[k].rels.length q8))) := fun nq => by
                    have h1 := HLX.out.draws nq
                    obtain ⟨v', W3, hr, g1, g2, g3, g4, g5⟩ := h1.lo.appB (HIN.out.1.below h1.lo.bel (Nat.le_refl _)) (by simp; omega)
                    obtain ⟨ad', cap', rfl⟩ := row_shape g5.by'.1
                    have hob := g4 _ _ _ (by have := h1.far; omega) h1.ob (by decide)
                    refine ⟨_, rfl, h1.lo.cells.2.1, h1.cells.1, by have := h1.lo.size; omega, h1.lt, ad', _, cap', W3, hr, g1, g2, ?_, ⟨g5, hob, h1.far⟩⟩
                    rw [Below.heap_setCell _ _ _ _ (by have := h1.far; show w2.heap.size ≠ w1.heap.size; omega)] at hob
                    exact blk_cell hob rfl
                  have hne : w2.heap.size ≠ w1.heap.size := by have := HLX.out.far; omega
                  clear HLX HE2
                  go_wp2_with fail
                  go_quiet (fail)
                  obtain ⟨Wd, hWd, g0, go0, gz, gz2, ad', n', cap', W3, HRUN, g1, g2, g3, HLX⟩ := HS.out nq
                  rw [← hWd]
                  clear hWd c0 c1 HS hzw
                  go_wp2_with (first | (at_builtin; refine wpList_app_eq rfl _ _ _ _ rfl _ _ rfl rfl HRUN.out ?_) | fail)
                  go_loopw [107] (fun i W => ∃ (j : Nat) (s' : List Sy) (sv' : Value), j ≤ l[k].syms.length ∧ i = .int .i64 j ∧ Hid (s'.length = s.length + j) ∧ Hid (LX w1 W base (b ++ List.replicate z 0 ++ l[k].code) s' (.slice ad' n' cap') sv' w2.heap.size (.slice q1 l[k].code.length q2) (.slice q4 l[k].syms.length q5) (.slice q7 l[k].rels.length q8)) ∧ Hid (addSyms A s l[k].syms = addSyms A s' (l[k].syms.drop j))) (fun i _ => l[k].syms.length - (intOf i).toNat)
                  case atStart => exact ⟨0, s, sv, Nat.zero_le _, rfl, rfl, HLX, rfl⟩
                  case round =>
                    obtain ⟨j, s', sv', hj, rfl, HSL, HLY, HAS⟩ := hrel
                    clear HLX HRUN g0 go0 g1 g2 g3 gz gz2
                    by_cases hjl : j < l[k].syms.length
                    · have hj1 : (j : Int) < l[k].syms.length := by omega
                      obtain ⟨ad2, cap2, e2, _, hsc⟩ := HIN.out.2.1
                      cases e2
                      obtain ⟨sb, so, hq4, hsb, hscell⟩ := hsc (by omega)
                      subst hq4
                      obtain ⟨y0, y1⟩ := hscell j hjl
                      rw [← HLY.out.lo.bel.cell (by exact hsb)] at y0 y1
                      have hsbw : sb < wr.heap.size := Nat.lt_of_lt_of_le hsb HLY.out.lo.bel.size
                      have HAT := Lib.hid (HAS.out.trans (addSyms_at hjl))
                      clear hscell hsc HAS
                      obtain ⟨hx0, hx1⟩ := wrongO_syms (HR.out l[k] (List.getElem_mem hlt)) l[k].syms[j] (List.getElem_mem hjl)
                      generalize l[k].syms[j] = x at *
                      obtain ⟨sa, scp, hsv⟩ := row_shape HLY.out.lo.sy
                      subst hsv
                      have HOWN := Lib.hid (show ∀ j0, (Value.slice sa s'.length scp).ownBlock = some j0 → j0 < wr.heap.size from fun j0 h => (HLY.out.lo.sy.lt j0 h).2)
                      have HOWG := Lib.hid (show ∀ j0, (Value.slice sa s'.length scp).ownBlock = some j0 → w1.heap.size < j0 from fun j0 h => by have := (HLY.out.lo.sy.lt j0 h).1; omega)
                      have m2 := HLY.out.lo.cells.2.2.1
                      have hzw : w1.heap.size < wr.heap.size := by have := HLY.out.lo.size; omega
                      have HLZ := Lib.hid (HLY.out.go (oalloc wr (.cells #[.string ⟨x.name.toArray⟩, .int .i64 x.pos] 49)))
                      have HBX := Lib.hid (blk_new wr #[.string ⟨x.name.toArray⟩, .int .i64 x.pos] 49)
                      have HWH := Lib.hid (rwhere_any x.name (.slice sa s'.length scp) s' (wr.alloc (.cells #[.string ⟨x.name.toArray⟩, .int .i64 x.pos] 49)) (ownS_row HLZ.out.lo.sy))
                      clear HLY
                      by_cases hwh : 0 ≤ whereL x.name s'
                      · have HX : Hid (linkL nameR l base = .error (7, k)) := by unfold Hid; rw [HX2.out, linkR, HE3.out, HAT.out, if_pos hwh]
                        clear HAT
                        generalize whereL x.name s' = wh at *
                        go_wp2_with (first | (go_at_call 32; refine HWH.out.mono ?_; rintro e w5 ⟨rfl, hb5⟩; have HL5 := Lib.hid (HL1.out.next ((HLZ.out.go hb5).lo.bel.mono HL1.out.lt)); clear hb5) | (go_at_call 30; refine (rno_any _ _ _).mono ?_; unfold noV; rintro e w6 ⟨rfl, hb6⟩; have HL6 := Lib.hid (HL5.out.go hb6); obtain ⟨n0, n1, n2, n3, n4, f0, f1, f2, f3, f4⟩ := HL6.out.cells; have hz6 := HL6.out.lt; clear hb6))
                        refine bodyPost_ret (v := .tuple #[.agg #[.int .i64 0, .slice none 0 0, .slice none 0 0], .agg #[.int .i64 7, .int .i64 k]]) (by simp [results, Try.results11, go_sem, n0, n1, n2, n3, n4]) rfl ?_
                        exact ⟨HL6.out.five _ _ _ _ _, by rw [HX.out]; rfl⟩
                      · have HAT2 := Lib.hid (HAT.out.trans (if_neg hwh))
                        clear HAT
                        have hwh2 : whereL x.name s' < 0 := by omega
                        generalize whereL x.name s' = wh at *
                        go_wp2_with (first | (go_at_call 32; refine HWH.out.mono ?_; rintro e w5 ⟨rfl, hb5⟩; have HL5 := Lib.hid (HLZ.out.go hb5); have HBX5 := Lib.hid ((hb5.block _ (by simp)).trans HBX.out); clear hb5 HLZ HBX y0 y1 m2) | fail)
                        have hA5 : w5.cell? ⟨gb, k, none⟩ = some (.int .i64 A) := by rw [HL5.out.lo.bel.cell (by exact hgb)]; exact HBK.out
                        have hbS := HBX5.out
                        refine wp_region_noPanic ?_
                        refine wp_region_held_drew (S := fun W => W.heap[wr.heap.size]? = some (.cells #[.string ⟨x.name.toArray⟩, .int .i64 x.pos] 49 (0, 0)) ∧ W.cell? ⟨gb, k, none⟩ = some (.int .i64 A)) (by kernel_rfl) ⟨hbS, hA5⟩ (fun hHeld => ?_)
                        obtain ⟨V0, hV0⟩ : ∃ X, X = w5.drew := ⟨_, rfl⟩
                        have HLa := Lib.hid (HL5.out.go (W' := V0) (by rw [hV0]; exact (Below.refl _ _).drew))
                        have hsz0 : wr.heap.size < V0.heap.size := by rw [hV0]; exact (Array.getElem?_eq_some_iff.1 hbS).1
                        rw [← hV0] at hHeld ⊢
                        clear hV0 HL5 HBX5 hbS hA5
                        refine take_at 0 122 (v := ?_) rfl rfl (by kernel_rfl) (by kernel_rfl) (by kernel_rfl) (fun _ _ _ h => h) rfl ?_ hHeld ?_
                        rotate_left
                        · intro w hSw
                          go_simp
                          try with_reducible rfl
                        simp only [List.setIfInBounds_toArray, List.set_cons_zero, List.set_cons_succ]
                        refine take_at 2 124 (v := ?_) rfl rfl (by kernel_rfl) (by kernel_rfl) (by kernel_rfl) (fun _ _ _ h => h) rfl ?_ hHeld ?_
                        rotate_left
                        · intro w hSw
                          go_simp
                          try with_reducible rfl
                        simp only [List.setIfInBounds_toArray, List.set_cons_zero, List.set_cons_succ]
                        refine take_at 3 125 (v := ?_) rfl rfl (by kernel_rfl) (by kernel_rfl) (by kernel_rfl) (fun _ _ _ h => h) rfl ?_ hHeld ?_
                        rotate_left
                        · intro w hSw
                          have x0 := cell_of_block (i := 0) hSw.1 rfl
                          have x1 := cell_of_block (i := 1) hSw.1 rfl
                          go_simp
                          try with_reducible rfl
                        simp only [List.setIfInBounds_toArray, List.set_cons_zero, List.set_cons_succ]
                        refine take_at 4 126 (v := ?_) rfl rfl (by kernel_rfl) (by kernel_rfl) (by kernel_rfl) (fun _ _ _ h => h) rfl ?_ hHeld ?_
                        rotate_left
                        · intro w hSw
                          go_simp
                          try with_reducible rfl
                        simp only [List.setIfInBounds_toArray, List.set_cons_zero, List.set_cons_succ]
                        refine take_at 5 127 (v := ?_) rfl rfl (by kernel_rfl) (by kernel_rfl) (by kernel_rfl) (fun _ _ _ h => h) rfl ?_ hHeld ?_
                        rotate_left
                        · intro w hSw
                          have x0 := cell_of_block (i := 0) hSw.1 rfl
                          have x1 := cell_of_block (i := 1) hSw.1 rfl
                          go_simp
                          try with_reducible rfl
                        simp only [List.setIfInBounds_toArray, List.set_cons_zero, List.set_cons_succ]
                        refine take_at 6 128 (v := ?_) rfl rfl (by kernel_rfl) (by kernel_rfl) (by kernel_rfl) (fun _ _ _ h => h) rfl ?_ hHeld ?_
                        rotate_left
                        · intro w hSw
                          go_simp
                          try with_reducible rfl
                        simp only [List.setIfInBounds_toArray, List.set_cons_zero, List.set_cons_succ]
                        refine take_at 7 129 (v := ?_) rfl rfl (by kernel_rfl) (by kernel_rfl) (by kernel_rfl) (fun _ _ _ h => h) rfl ?_ hHeld ?_
                        rotate_left
                        · intro w hSw
                          go_simp
                          try with_reducible rfl
                        simp only [List.setIfInBounds_toArray, List.set_cons_zero, List.set_cons_succ]
                        refine take_at 8 130 (v := ?_) rfl rfl (by kernel_rfl) (by kernel_rfl) (by kernel_rfl) (fun _ _ _ h => h) rfl ?_ hHeld ?_
                        rotate_left
                        · intro w hSw
                          go_simp
                          try with_reducible rfl
                        simp only [List.setIfInBounds_toArray, List.set_cons_zero, List.set_cons_succ]
                        refine take_at 9 131 (v := ?_) rfl rfl (by kernel_rfl) (by kernel_rfl) (by kernel_rfl) (fun _ _ _ h => h) rfl ?_ hHeld ?_
                        rotate_left
                        · intro w hSw
                          have xA := hSw.2
                          go_simp
                          try with_reducible rfl
                        simp only [List.setIfInBounds_toArray, List.set_cons_zero, List.set_cons_succ]
                        refine take_at 10 132 (v := ?_) rfl rfl (by kernel_rfl) (by kernel_rfl) (by kernel_rfl) (fun _ _ _ h => h) rfl ?_ hHeld ?_
                        rotate_left
                        · intro w hSw
                          go_simp
                          try with_reducible rfl
                        simp only [List.setIfInBounds_toArray, List.set_cons_zero, List.set_cons_succ]
                        refine take_at 11 133 (v := ?_) rfl rfl (by kernel_rfl) (by kernel_rfl) (by kernel_rfl) (fun _ _ _ h => h) rfl ?_ hHeld ?_
                        rotate_left
                        · intro w hSw
                          go_simp
                          try with_reducible rfl
                        simp only [List.setIfInBounds_toArray, List.set_cons_zero, List.set_cons_succ]
                        refine wpAnyH_ready (rs := [1, 12]) (by kernel_rfl) (by simp) ?_
                        refine AllReadyH.cons rfl (fun K hK => ?_) (AllReadyH.cons rfl (fun K hK => ?_) AllReadyH.nil)
                        · have xl := HLa.out.lo.cells.2.2.1
                          go_simp
                          refine hK.out _ _ hHeld (fun hHeld => ?_)
                          clear hK K xl
                          refine wpAnyH_ready (rs := [12]) (by kernel_rfl) (by simp) ?_
                          refine AllReadyH.cons rfl (fun K hK => ?_) AllReadyH.nil
                          go_simp
                          generalize hWn : World.alloc V0 _ = V1
                          have hsz1 : V0.heap.size < V1.heap.size := by rw [← hWn]; simp
                          have hbl1 : Below V0.heap.size V0 V1 := by rw [← hWn]; exact oalloc _ _
                          have HLb := Lib.hid (HLa.out.go hbl1)
                          have HBN : Hid (V1.heap[V0.heap.size]? = some (.cells #[.string ⟨x.name.toArray⟩, .int .i64 (x.pos + A)] 49 (0, 0))) := by unfold Hid; rw [← hWn, show IntKind.i64.wrap (x.pos + A) = x.pos + A by rw [IntKind.wrap_i64]; omega]; exact blk_new V0 _ _
                          have hH1 := hHeld
                          rw [← hbl1.block _ hsz0, ← hbl1.cell (show gb < V0.heap.size by omega)] at hH1
                          refine hK.out _ _ hH1 (fun hHeld => ?_)
                          clear hK K hWn HLa hbl1 hH1
                          refine wpAnyH_ready (rs := [13]) (by kernel_rfl) (by simp) ?_
                          refine AllReadyH.cons rfl (fun K hK => ?_) AllReadyH.nil
                          obtain ⟨v3, W3', happ, p1, p2, hg3, p4, p5⟩ := HLb.out.lo.appS ⟨x.name, x.pos + A⟩ V0.heap.size HBN.out (by have := HSL.out; omega)
                          obtain ⟨ad3, cap3, hsh⟩ := row_shape p5.sy
                          obtain ⟨n3, hn3'⟩ : ∃ n, n = (s' ++ [(⟨x.name, x.pos + A⟩ : Sy)]).length := ⟨_, rfl⟩
                          rw [← hn3'] at hsh
                          subst hsh
                          have HA := Lib.hid happ
                          have HLc : Hid (LX w1 (W3'.setCell ⟨w1.heap.size, 2, none⟩ (.slice ad3 n3 cap3)) base (b ++ List.replicate z 0 ++ l[k].code) (s' ++ [⟨x.name, x.pos + A⟩]) (.slice ad' n' cap') (.slice ad3 n3 cap3) w2.heap.size (.slice q1 l[k].code.length q2) (.slice (some ⟨sb, so, none⟩) l[k].syms.length q5) (.slice q7 l[k].rels.length q8)) :=
                            ⟨p5, p4 _ _ _ hne HLb.out.ob (by decide), HLb.out.far⟩
                          have hH3 := hHeld
                          rw [← hg3.block _ (by omega) (fun e => by have := HOWN.out _ e.symm; omega), ← World.cell?_of_block (a := ⟨gb, k, none⟩) (hg3.block gb (by omega) (fun e => by have := HOWG.out _ e.symm; omega))] at hH3
                          clear happ p4 p5 HBN HLb hn3'
                          refine step_app_eq (by rfl) 135 (by rfl) _ _ _ _ (by rfl) _ _ (by rfl) (by rfl) HA.out ?_
                          simp only [List.setIfInBounds_toArray, List.set_cons_zero, List.set_cons_succ]
                          refine hK.out _ _ hH3 (fun hHeld => ?_)
                          clear hK K HA hH3 hg3
                          refine take_at 14 136 (v := ?_) rfl rfl (by kernel_rfl) (by kernel_rfl) (by kernel_rfl) (fun _ _ _ h => h) rfl ?_ hHeld ?_
                          rotate_left
                          · intro w hSw
                            go_simp
                            try with_reducible rfl
                          simp only [List.setIfInBounds_toArray, List.set_cons_zero, List.set_cons_succ]
                          refine wpAnyH_ready (rs := [15]) (by kernel_rfl) (by simp) ?_
                          refine AllReadyH.cons rfl (fun K hK => ?_) AllReadyH.nil
                          go_simp
                          refine hK.out _ _ ⟨by rw [Below.heap_setCell _ _ _ _ (by show wr.heap.size ≠ w1.heap.size; omega)]; exact hHeld.1, by rw [World.cell?_setCell_other _ _ _ _ (by intro e; cases e; omega)]; exact hHeld.2⟩ (fun _ => ?_)
                          clear hK K p1 p2 hHeld
                          refine wpAnyH_done (by kernel_rfl) ?_ _
                          refine NoPanic.normal ?_
                          go_wp2_with fail
                          exact ⟨⟨j + 1, _, _, by omega, by go_num, by have := HSL.out; unfold Hid; simp; omega, HLc, HAT2⟩, by simp [intOf]; omega⟩
                        · go_simp
                          generalize hWn : World.alloc V0 _ = V1
                          have hsz1 : V0.heap.size < V1.heap.size := by rw [← hWn]; simp
                          have hbl1 : Below V0.heap.size V0 V1 := by rw [← hWn]; exact oalloc _ _
                          have HLb := Lib.hid (HLa.out.go hbl1)
                          have HBN : Hid (V1.heap[V0.heap.size]? = some (.cells #[.string ⟨x.name.toArray⟩, .int .i64 (x.pos + A)] 49 (0, 0))) := by unfold Hid; rw [← hWn, show IntKind.i64.wrap (x.pos + A) = x.pos + A by rw [IntKind.wrap_i64]; omega]; exact blk_new V0 _ _
                          have hH1 := hHeld
                          rw [← hbl1.block _ hsz0, ← hbl1.cell (show gb < V0.heap.size by omega)] at hH1
                          refine hK.out _ _ hH1 (fun hHeld => ?_)
                          clear hK K hWn HLa hbl1 hH1
                          refine wpAnyH_ready (rs := [1]) (by kernel_rfl) (by simp) ?_
                          refine AllReadyH.cons rfl (fun K hK => ?_) AllReadyH.nil
                          have xl := HLb.out.lo.cells.2.2.1
                          go_simp
                          refine hK.out _ _ hHeld (fun hHeld => ?_)
                          clear hK K xl
                          refine wpAnyH_ready (rs := [13]) (by kernel_rfl) (by simp) ?_
                          refine AllReadyH.cons rfl (fun K hK => ?_) AllReadyH.nil
                          obtain ⟨v3, W3', happ, p1, p2, hg3, p4, p5⟩ := HLb.out.lo.appS ⟨x.name, x.pos + A⟩ V0.heap.size HBN.out (by have := HSL.out; omega)
                          obtain ⟨ad3, cap3, hsh⟩ := row_shape p5.sy
                          obtain ⟨n3, hn3'⟩ : ∃ n, n = (s' ++ [(⟨x.name, x.pos + A⟩ : Sy)]).length := ⟨_, rfl⟩
                          rw [← hn3'] at hsh
                          subst hsh
                          have HA := Lib.hid happ
                          have HLc : Hid (LX w1 (W3'.setCell ⟨w1.heap.size, 2, none⟩ (.slice ad3 n3 cap3)) base (b ++ List.replicate z 0 ++ l[k].code) (s' ++ [⟨x.name, x.pos + A⟩]) (.slice ad' n' cap') (.slice ad3 n3 cap3) w2.heap.size (.slice q1 l[k].code.length q2) (.slice (some ⟨sb, so, none⟩) l[k].syms.length q5) (.slice q7 l[k].rels.length q8)) :=
                            ⟨p5, p4 _ _ _ hne HLb.out.ob (by decide), HLb.out.far⟩
                          have hH3 := hHeld
                          rw [← hg3.block _ (by omega) (fun e => by have := HOWN.out _ e.symm; omega), ← World.cell?_of_block (a := ⟨gb, k, none⟩) (hg3.block gb (by omega) (fun e => by have := HOWG.out _ e.symm; omega))] at hH3
                          clear happ p4 p5 HBN HLb hn3'
                          refine step_app_eq (by rfl) 135 (by rfl) _ _ _ _ (by rfl) _ _ (by rfl) (by rfl) HA.out ?_
                          simp only [List.setIfInBounds_toArray, List.set_cons_zero, List.set_cons_succ]
                          refine hK.out _ _ hH3 (fun hHeld => ?_)
                          clear hK K HA hH3 hg3
                          refine take_at 14 136 (v := ?_) rfl rfl (by kernel_rfl) (by kernel_rfl) (by kernel_rfl) (fun _ _ _ h => h) rfl ?_ hHeld ?_
                          rotate_left
                          · intro w hSw
                            go_simp
                            try with_reducible rfl
                          simp only [List.setIfInBounds_toArray, List.set_cons_zero, List.set_cons_succ]
                          refine wpAnyH_ready (rs := [15]) (by kernel_rfl) (by simp) ?_
                          refine AllReadyH.cons rfl (fun K hK => ?_) AllReadyH.nil
                          go_simp
                          refine hK.out _ _ ⟨by rw [Below.heap_setCell _ _ _ _ (by show wr.heap.size ≠ w1.heap.size; omega)]; exact hHeld.1, by rw [World.cell?_setCell_other _ _ _ _ (by intro e; cases e; omega)]; exact hHeld.2⟩ (fun _ => ?_)
                          clear hK K p1 p2 hHeld
                          refine wpAnyH_done (by kernel_rfl) ?_ _
                          refine NoPanic.normal ?_
                          go_wp2_with fail
                          exact ⟨⟨j + 1, _, _, by omega, by go_num, by have := HSL.out; unfold Hid; simp; omega, HLc, HAT2⟩, by simp [intOf]; omega⟩
                    · have hj1 : ¬ (j : Int) < l[k].syms.length := by omega
                      have HAE : Hid (addSyms A s l[k].syms = some s') := by unfold Hid; rw [HAS.out, List.drop_eq_nil_of_le (by omega)]; rfl
                      have HLE := Lib.hid (HE3.out.trans (by rw [HAE.out]))
                      go_wp2_with fail
                      exact ⟨⟨k + 1, _, s', _, _, by omega, by go_num, ⟨by rw [HEND.out]; simp; omega, by have := HSL.out; omega⟩, HLY.out.lo, HLE⟩, by simp [intOf]; omega⟩
            · have hk1 : ¬ (k : Int) < l.length := by omega
              have HLS : Hid (linkL nameR l base = linkS base (l.zip (basesL base l)) (b, s)) := by unfold Hid; rw [HX2.out, linkR, HE.out, layL_end (by omega)]
              obtain ⟨hb1, hs1⟩ := HN.out
              obtain rfl : k = l.length := by omega
              rw [List.take_length] at hb1
              have hbl2 : b.length ≤ 2000000 := by omega
              have HLR0 := Lib.hid (LR.of HLO.out (by unfold maxLen; omega))
              clear HE HN HLO hb1 hs1 HX2
              go_wp2_with fail
              go_loopw [141] (fun i W => ∃ (k : Nat) (c : List UInt8) (bv : Value), k ≤ l.length ∧ i = .int .i64 k ∧ Hid (c.length = b.length) ∧ Hid (LR w1 W base c s bv sv) ∧ Hid (relL s base 0 b (l.zip (basesL base l)) = relL s base k c ((l.zip (basesL base l)).drop k))) (fun i _ => l.length - (intOf i).toNat)
              case atStart => exact ⟨0, b, bv, Nat.zero_le _, rfl, rfl, HLR0, rfl⟩
              case round =>
                obtain ⟨m, c, cv, hmk, rfl, HCL, HLR, HE⟩ := hrel
                clear HLR0
                obtain ⟨w3, rfl⟩ : ∃ x, x = wr := ⟨_, rfl⟩
                by_cases hmlt : m < l.length
                · have hm1 : (m : Int) < l.length := by omega
                  obtain ⟨ad', cap', hv', _, hc⟩ := HOB.out
                  obtain ⟨ob, of, had, hbl, hcell⟩ := hc (by omega)
                  cases hv'
                  subst had
                  obtain ⟨cc, sy, r, c0, c1, c2, hin⟩ := hcell m hmlt
                  rw [← HLR.out.bel.cell (by exact hbl)] at c0 c1 c2
                  have hbw : ob < w3.heap.size := Nat.lt_of_lt_of_le hbl HLR.out.bel.size
                  obtain ⟨q1, q2, rfl, q3⟩ := id hin.1
                  obtain ⟨q4, q5, rfl, q6⟩ := id hin.2.1
                  obtain ⟨q7, q8, rfl, q9⟩ := id hin.2.2
                  clear q3 q6 q9 hcell hc
                  have HIN := Lib.hid hin
                  clear hin
                  have HY0 : Hid (LRX w1 (w3.alloc (.cells #[.slice q1 l[m].code.length q2, .slice q4 l[m].syms.length q5, .slice q7 l[m].rels.length q8] 26)) base c s cv sv w3.heap.size (.slice q1 l[m].code.length q2) (.slice q4 l[m].syms.length q5) (.slice q7 l[m].rels.length q8)) :=
                    ⟨HLR.out.go (oalloc _ _), blk_new _ _ _, HLR.out.size⟩
                  have HE2 := Lib.hid (HE.out.trans (relL_at hmlt c))
                  have HBK := Lib.hid ((HCB.out m (by rw [basesL_len]; exact hmlt)).trans (congrArg (fun x => some (Value.int .i64 x)) (basesL_at l base m hmlt)))
                  have hup := up4_le (endL base (l.take m))
                  have hge := endL_ge (l.take m) base
                  have hle := endL_upto l base m
                  have HRR := Lib.hid (wrongO_rels (HR.out l[m] (List.getElem_mem hmlt)))
                  have hrl : l[m].rels.length ≤ 16000 := (wrongO_few (HR.out l[m] (List.getElem_mem hmlt))).2.2
                  generalize hA : up4 (endL base (l.take m)) = A at *
                  have hA0 : 0 ≤ A := by omega
                  have hA1 : A ≤ 2000000 := by omega
                  have hAb : base ≤ A := by omega
                  clear HE HLR hup hge hle hA
                  go_wp2_with fail
                  clear c0 c1 c2
                  go_loopw [149] (fun i W => ∃ (j : Nat) (c' : List UInt8) (bv : Value), j ≤ l[m].rels.length ∧ i = .int .i64 j ∧ Hid (c'.length = b.length) ∧ Hid (LRX w1 W base c' s bv sv w3.heap.size (.slice q1 l[m].code.length q2) (.slice q4 l[m].syms.length q5) (.slice q7 l[m].rels.length q8)) ∧ Hid (putRels s base A c l[m].rels = putRels s base A c' (l[m].rels.drop j))) (fun i _ => l[m].rels.length - (intOf i).toNat)
                  case atStart => exact ⟨0, c, cv, Nat.zero_le _, rfl, HCL, HY0, rfl⟩
                  case round =>
                    obtain ⟨j, c', cv', hjk, rfl, HCL', HY, HP⟩ := hrel
                    clear HY0 HCL
                    obtain ⟨ba, bc, hcv, _⟩ := id HY.out.lr.by'
                    obtain ⟨sa, sc, hsv, _⟩ := id HY.out.lr.sy
                    subst hcv hsv
                    by_cases hjlt : j < l[m].rels.length
                    · have hj1 : (j : Int) < l[m].rels.length := by omega
                      obtain ⟨ad', cap', hv', _, hc⟩ := HIN.out.2.2
                      obtain ⟨rb, ro, had, hrbl, hcell⟩ := hc (by omega)
                      cases hv'
                      subst had
                      obtain ⟨c0, c1, c2, c3⟩ := hcell j hjlt
                      rw [← HY.out.lr.bel.cell (by exact hrbl)] at c0 c1 c2 c3
                      have hrw : rb < wr.heap.size := Nat.lt_of_lt_of_le hrbl HY.out.lr.bel.size
                      have HPA := Lib.hid (HP.out.trans (putRels_at (syms := s) (base := base) (at' := A) (b := c') hjlt))
                      obtain ⟨hz24, hp0, hp1, _, _⟩ := HRR.out l[m].rels[j] (List.getElem_mem hjlt)
                      clear hcell hc HP
                      generalize hrel : l[m].rels[j] = r at *
                      obtain ⟨rp, rz, rn, ra⟩ := r
                      simp only at c0 c1 c2 c3 hz24 hp0 hp1
                      clear hrel
                      obtain ⟨cw, hcw⟩ : ∃ x, x = wr.alloc (.cells #[.int .i64 rp, .int .i64 rz, .string ⟨rn.toArray⟩, .int .i64 ra] 51) := ⟨_, rfl⟩
                      have HY1 := Lib.hid (HY.out.go (hcw ▸ oalloc wr _))
                      have HRB : Hid (cw.heap[wr.heap.size]? = some (.cells #[.int .i64 rp, .int .i64 rz, .string ⟨rn.toArray⟩, .int .i64 ra] 51 (0, 0))) := by unfold Hid; rw [hcw]; exact blk_new _ _ _
                      have hzc : cw.heap.size = wr.heap.size + 1 := by rw [hcw]; simp
                      rw [hcw] at HY1 HRB hzc
                      clear hcw cw
                      have hz1 := HY1.out.lr.size
                      have HBC := Lib.hid (HBK.out)
                      have b0 := HBK.out
                      rw [← HY.out.lr.bel.cell (by exact hgb)] at b0
                      have hgw : gb < wr.heap.size := Nat.lt_of_lt_of_le hgb HY.out.lr.bel.size
                      have HERR : Hid (∀ e, putRel s base A c' ⟨rp, rz, rn, ra⟩ = .error e → linkL nameR l base = .error (e, m)) := fun e he => by
                        rw [HLS.out]
                        simp only [linkS, HE2.out, HPA.out, he]
                      have HOK : Hid (∀ c2, putRel s base A c' ⟨rp, rz, rn, ra⟩ = .ok c2 → putRels s base A c l[m].rels = putRels s base A c2 (l[m].rels.drop (j + 1))) := fun c2 he => by
                        rw [HPA.out, he]
                      have HLL := Lib.hid (HL1.out.go HY1.out.lr.bel)
                      clear HPA HBC
                      by_cases hn0 : rn = []
                      · have n1 : (rn == []) = true := by simpa using hn0
                        obtain ⟨p, hpA⟩ : ∃ p, p = A := ⟨_, rfl⟩
                        have HPP : Hid ((if rn = [] then A else whereL rn s) = p) := by unfold Hid; rw [if_pos hn0, hpA]
                        have hp00 : ¬ p < 0 := by omega
                        subst hpA
                        obtain ⟨n, HNN⟩ : ∃ n, Hid (wrap32 (p + ra) = n) := ⟨_, rfl⟩
                        obtain ⟨_, y1, y2, yf⟩ := HY1.out.lr.cells
                        clear hn0
                        by_cases hfar : rz = 2 ∧ (65535 < n ∨ n < -32768)
                        · have HX := Lib.hid (HERR.out 3 (putRel_far HPP.out hp00 (by rw [HNN.out]; exact hfar)))
                          obtain ⟨rfl, hfar⟩ := hfar
                          clear HERR HOK hz24
                          by_cases hf1 : 65535 < n
                          · clear hfar
                            go_wp2_with (first | (go_at_call 32; refine HWH.out.mono ?_; rintro e w4 ⟨rfl, hb4⟩; obtain ⟨hy4, x0, x1, x2, x3, b4, hl4, hz4, hr4⟩ := HQ.out w4 hb4; have HY4 := Lib.hid hy4; have HRB4 := Lib.hid hr4; have HLL4 := Lib.hid hl4; obtain ⟨_, y1, y2, yf⟩ := HY4.out.lr.cells; clear hb4 hy4 hl4 hr4) | (go_at_call 33; refine (rsigned_as _ n _ (by first | exact HNN.out | (rw [wrap32_w]; exact HNN.out))).mono ?_; rintro e w5 ⟨rfl, rfl⟩) | (go_at_call 30; refine (rno_any _ _ _).mono ?_; unfold noV; rintro e w6 ⟨rfl, hb6⟩; have HLE := Lib.hid (HLL.out.go hb6); obtain ⟨n0, n1, n2, n3, n4, f0, f1, f2, f3, f4⟩ := HLE.out.cells; have hz := HLE.out.lt; clear hb6))
                            refine bodyPost_ret (v := .tuple #[.agg #[.int .i64 0, .slice none 0 0, .slice none 0 0], .agg #[.int .i64 (3), .int .i64 (m)]]) (by simp [results, Try.results11, go_sem, n0, n1, n2, n3, n4]) rfl ?_
                            exact ⟨HLE.out.five _ _ _ _ _, by rw [HX.out]; rfl⟩
                          · have hf2 : n < -32768 := by omega
                            clear hfar
                            go_wp2_with (first | (go_at_call 32; refine HWH.out.mono ?_; rintro e w4 ⟨rfl, hb4⟩; obtain ⟨hy4, x0, x1, x2, x3, b4, hl4, hz4, hr4⟩ := HQ.out w4 hb4; have HY4 := Lib.hid hy4; have HRB4 := Lib.hid hr4; have HLL4 := Lib.hid hl4; obtain ⟨_, y1, y2, yf⟩ := HY4.out.lr.cells; clear hb4 hy4 hl4 hr4) | (go_at_call 33; refine (rsigned_as _ n _ (by first | exact HNN.out | (rw [wrap32_w]; exact HNN.out))).mono ?_; rintro e w5 ⟨rfl, rfl⟩) | (go_at_call 30; refine (rno_any _ _ _).mono ?_; unfold noV; rintro e w6 ⟨rfl, hb6⟩; have HLE := Lib.hid (HLL.out.go hb6); obtain ⟨n0, n1, n2, n3, n4, f0, f1, f2, f3, f4⟩ := HLE.out.cells; have hz := HLE.out.lt; clear hb6))
                            refine bodyPost_ret (v := .tuple #[.agg #[.int .i64 0, .slice none 0 0, .slice none 0 0], .agg #[.int .i64 (3), .int .i64 (m)]]) (by simp [results, Try.results11, go_sem, n0, n1, n2, n3, n4]) rfl ?_
                            exact ⟨HLE.out.five _ _ _ _ _, by rw [HX.out]; rfl⟩
                        · have HOK2 := Lib.hid (HOK.out _ (putRel_ok HPP.out hp00 (by rw [HNN.out]; exact hfar)))
                          rw [HNN.out] at HOK2
                          clear HERR HOK
                          rcases hz24 with rfl | rfl
                          · have hf1 : ¬ 65535 < n := by omega
                            have hf2 : ¬ n < -32768 := by omega
                            clear hfar
                            have HPUT := Lib.hid (fun (V : World) (hy : LRX w1 V base c' s (.slice ba c'.length bc) (.slice sa s.length sc) w3.heap.size (.slice q1 l[m].code.length q2) (.slice q4 l[m].syms.length q5) (.slice (some ⟨rb, ro, none⟩) l[m].rels.length q8)) => rput_list2 (.slice ba c'.length bc) c' (p - base + rp) 2 n V hy.lr.by' (by rw [HCL'.out]; omega) (by decide) (by decide) (by omega) (by omega))
                            go_wp2_with (first | (go_at_call 32; refine HWH.out.mono ?_; rintro e w4 ⟨rfl, hb4⟩; obtain ⟨hy4, x0, x1, x2, x3, b4, hl4, hz4, hr4⟩ := HQ.out w4 hb4; have HY4 := Lib.hid hy4; have HRB4 := Lib.hid hr4; have HLL4 := Lib.hid hl4; obtain ⟨_, y1, y2, yf⟩ := HY4.out.lr.cells; clear hb4 hy4 hl4 hr4) | (go_at_call 33; refine (rsigned_as _ n _ (by first | exact HNN.out | (rw [wrap32_w]; exact HNN.out))).mono ?_; rintro e w5 ⟨rfl, rfl⟩) | fail)
                            have hbS : (wr.alloc (.cells #[.int .i64 rp, .int .i64 2, .string ⟨rn.toArray⟩, .int .i64 ra] 51)).heap[wr.heap.size]? = some (.cells #[.int .i64 rp, .int .i64 2, .string ⟨rn.toArray⟩, .int .i64 ra] 51 (0, 0)) := HRB.out
                            have hA5 : (wr.alloc (.cells #[.int .i64 rp, .int .i64 2, .string ⟨rn.toArray⟩, .int .i64 ra] 51)).cell? ⟨gb, m, none⟩ = some (.int .i64 p) := (HY1.out.lr.bel.cell (by exact hgb)).trans HBK.out
                            refine wp_region_noPanic ?_
                            refine wp_region_held_drew (S := fun W => W.heap[wr.heap.size]? = some (.cells #[.int .i64 rp, .int .i64 2, .string ⟨rn.toArray⟩, .int .i64 ra] 51 (0, 0)) ∧ W.cell? ⟨gb, m, none⟩ = some (.int .i64 p)) (by kernel_rfl) ⟨hbS, hA5⟩ (fun hHeld => ?_)
                            obtain ⟨V0, hV0⟩ : ∃ X, X = (wr.alloc (.cells #[.int .i64 rp, .int .i64 2, .string ⟨rn.toArray⟩, .int .i64 ra] 51)).drew := ⟨_, rfl⟩
                            have HLa := Lib.hid (HY1.out.go (W' := V0) (by rw [hV0]; exact (Below.refl _ _).drew))
                            have hsz0 : wr.heap.size < V0.heap.size := by rw [hV0]; exact (Array.getElem?_eq_some_iff.1 hbS).1
                            have hszg : gb < V0.heap.size := by have := HLa.out.lr.bel.size; omega
                            rw [← hV0] at hHeld ⊢
                            clear hV0 hbS hA5
                            refine take_at 0 193 (v := ?_) rfl rfl (by kernel_rfl) (by kernel_rfl) (by kernel_rfl) (fun _ _ _ h => h) rfl ?_ hHeld ?_
                            rotate_left
                            · intro w hSw
                              have x0 := cell_of_block (i := 0) hSw.1 rfl
                              have x1 := cell_of_block (i := 1) hSw.1 rfl
                              have x2 := hSw.2
                              go_simp
                              try with_reducible rfl
                            simp only [List.setIfInBounds_toArray, List.set_cons_zero, List.set_cons_succ]
                            refine take_at 2 195 (v := ?_) rfl rfl (by kernel_rfl) (by kernel_rfl) (by kernel_rfl) (fun _ _ _ h => h) rfl ?_ hHeld ?_
                            rotate_left
                            · intro w hSw
                              have x0 := cell_of_block (i := 0) hSw.1 rfl
                              have x1 := cell_of_block (i := 1) hSw.1 rfl
                              have x2 := hSw.2
                              go_simp
                              try with_reducible rfl
                            simp only [List.setIfInBounds_toArray, List.set_cons_zero, List.set_cons_succ]
                            refine take_at 3 196 (v := ?_) rfl rfl (by kernel_rfl) (by kernel_rfl) (by kernel_rfl) (fun _ _ _ h => h) rfl ?_ hHeld ?_
                            rotate_left
                            · intro w hSw
                              have x0 := cell_of_block (i := 0) hSw.1 rfl
                              have x1 := cell_of_block (i := 1) hSw.1 rfl
                              have x2 := hSw.2
                              go_simp
                              try with_reducible rfl
                            simp only [List.setIfInBounds_toArray, List.set_cons_zero, List.set_cons_succ]
                            refine take_at 4 197 (v := ?_) rfl rfl (by kernel_rfl) (by kernel_rfl) (by kernel_rfl) (fun _ _ _ h => h) rfl ?_ hHeld ?_
                            rotate_left
                            · intro w hSw
                              have x0 := cell_of_block (i := 0) hSw.1 rfl
                              have x1 := cell_of_block (i := 1) hSw.1 rfl
                              have x2 := hSw.2
                              go_simp
                              try with_reducible rfl
                            simp only [List.setIfInBounds_toArray, List.set_cons_zero, List.set_cons_succ]
                            refine take_at 5 198 (v := ?_) rfl rfl (by kernel_rfl) (by kernel_rfl) (by kernel_rfl) (fun _ _ _ h => h) rfl ?_ hHeld ?_
                            rotate_left
                            · intro w hSw
                              have x0 := cell_of_block (i := 0) hSw.1 rfl
                              have x1 := cell_of_block (i := 1) hSw.1 rfl
                              have x2 := hSw.2
                              go_simp
                              try with_reducible rfl
                            simp only [List.setIfInBounds_toArray, List.set_cons_zero, List.set_cons_succ]
                            refine take_at 6 199 (v := ?_) rfl rfl (by kernel_rfl) (by kernel_rfl) (by kernel_rfl) (fun _ _ _ h => h) rfl ?_ hHeld ?_
                            rotate_left
                            · intro w hSw
                              have x0 := cell_of_block (i := 0) hSw.1 rfl
                              have x1 := cell_of_block (i := 1) hSw.1 rfl
                              have x2 := hSw.2
                              go_simp
                              try with_reducible rfl
                            simp only [List.setIfInBounds_toArray, List.set_cons_zero, List.set_cons_succ]
                            refine take_at 7 200 (v := ?_) rfl rfl (by kernel_rfl) (by kernel_rfl) (by kernel_rfl) (fun _ _ _ h => h) rfl ?_ hHeld ?_
                            rotate_left
                            · intro w hSw
                              have x0 := cell_of_block (i := 0) hSw.1 rfl
                              have x1 := cell_of_block (i := 1) hSw.1 rfl
                              have x2 := hSw.2
                              go_simp
                              try with_reducible rfl
                            simp only [List.setIfInBounds_toArray, List.set_cons_zero, List.set_cons_succ]
                            refine take_at 8 201 (v := ?_) rfl rfl (by kernel_rfl) (by kernel_rfl) (by kernel_rfl) (fun _ _ _ h => h) rfl ?_ hHeld ?_
                            rotate_left
                            · intro w hSw
                              have x0 := cell_of_block (i := 0) hSw.1 rfl
                              have x1 := cell_of_block (i := 1) hSw.1 rfl
                              have x2 := hSw.2
                              go_simp
                              try with_reducible rfl
                            simp only [List.setIfInBounds_toArray, List.set_cons_zero, List.set_cons_succ]
                            refine take_at 9 202 (v := ?_) rfl rfl (by kernel_rfl) (by kernel_rfl) (by kernel_rfl) (fun _ _ _ h => h) rfl ?_ hHeld ?_
                            rotate_left
                            · intro w hSw
                              have x0 := cell_of_block (i := 0) hSw.1 rfl
                              have x1 := cell_of_block (i := 1) hSw.1 rfl
                              have x2 := hSw.2
                              go_simp
                              try with_reducible rfl
                            simp only [List.setIfInBounds_toArray, List.set_cons_zero, List.set_cons_succ]
                            refine take_at 10 203 (v := ?_) rfl rfl (by kernel_rfl) (by kernel_rfl) (by kernel_rfl) (fun _ _ _ h => h) rfl ?_ hHeld ?_
                            rotate_left
                            · intro w hSw
                              have x0 := cell_of_block (i := 0) hSw.1 rfl
                              have x1 := cell_of_block (i := 1) hSw.1 rfl
                              have x2 := hSw.2
                              go_simp
                              try with_reducible rfl
                            simp only [List.setIfInBounds_toArray, List.set_cons_zero, List.set_cons_succ]
                            refine take_at 11 204 (v := ?_) rfl rfl (by kernel_rfl) (by kernel_rfl) (by kernel_rfl) (fun _ _ _ h => h) rfl ?_ hHeld ?_
                            rotate_left
                            · intro w hSw
                              have x0 := cell_of_block (i := 0) hSw.1 rfl
                              have x1 := cell_of_block (i := 1) hSw.1 rfl
                              have x2 := hSw.2
                              go_simp
                              try with_reducible rfl
                            simp only [List.setIfInBounds_toArray, List.set_cons_zero, List.set_cons_succ]
                            refine take_at 12 205 (v := ?_) rfl rfl (by kernel_rfl) (by kernel_rfl) (by kernel_rfl) (fun _ _ _ h => h) rfl ?_ hHeld ?_
                            rotate_left
                            · intro w hSw
                              have x0 := cell_of_block (i := 0) hSw.1 rfl
                              have x1 := cell_of_block (i := 1) hSw.1 rfl
                              have x2 := hSw.2
                              go_simp
                              try with_reducible rfl
                            simp only [List.setIfInBounds_toArray, List.set_cons_zero, List.set_cons_succ]
                            refine take_at 13 206 (v := ?_) rfl rfl (by kernel_rfl) (by kernel_rfl) (by kernel_rfl) (fun _ _ _ h => h) rfl ?_ hHeld ?_
                            rotate_left
                            · intro w hSw
                              have x0 := cell_of_block (i := 0) hSw.1 rfl
                              have x1 := cell_of_block (i := 1) hSw.1 rfl
                              have x2 := hSw.2
                              go_simp
                              try with_reducible rfl
                            simp only [List.setIfInBounds_toArray, List.set_cons_zero, List.set_cons_succ]
                            refine wpAnyH_ready (rs := [1]) (by kernel_rfl) (by simp) ?_
                            refine AllReadyH.cons rfl (fun K hK => ?_) AllReadyH.nil
                            have xl := HLa.out.lr.cells.2.1
                            go_simp
                            refine hK.out _ _ hHeld (fun hHeld => ?_)
                            clear hK K xl
                            refine wpAnyH_ready (rs := [14]) (by kernel_rfl) (by simp) ?_
                            refine AllReadyH.cons rfl (fun K hK => ?_) AllReadyH.nil
                            go_simp
                            rw [show IntKind.i64.wrap (IntKind.i64.wrap (p - base) + rp) = p - base + rp by rw [IntKind.wrap_i64, IntKind.wrap_i64]; omega]
                            refine (HPUT.out _ HLa.out).mono ?_
                            rintro e w7 ⟨g, cg, rfl, hb7, hg7, ho7⟩
                            have HY7 := Lib.hid (HLa.out.put hg7 hb7 ho7)
                            have z1 := (HLa.out.go hb7).lr.cells.2.1
                            have zf := (HLa.out.go hb7).lr.cells.2.2.2
                            have hH3 := hHeld
                            rw [← hb7.block _ hsz0, ← hb7.cell (by exact hszg)] at hH3
                            have hne1 : wr.heap.size ≠ w1.heap.size := by have := HY.out.lr.size; omega
                            clear hb7 hg7 ho7 HPUT
                            go_simp
                            refine hK.out _ _ hH3 (fun hHeld => ?_)
                            clear hK K hH3
                            refine take_at 15 208 (v := ?_) rfl rfl (by kernel_rfl) (by kernel_rfl) (by kernel_rfl) (fun _ _ _ h => h) rfl ?_ hHeld ?_
                            rotate_left
                            · intro w hSw
                              have x0 := cell_of_block (i := 0) hSw.1 rfl
                              have x1 := cell_of_block (i := 1) hSw.1 rfl
                              have x2 := hSw.2
                              go_simp
                              try with_reducible rfl
                            simp only [List.setIfInBounds_toArray, List.set_cons_zero, List.set_cons_succ]
                            refine wpAnyH_ready (rs := [16]) (by kernel_rfl) (by simp) ?_
                            refine AllReadyH.cons rfl (fun K hK => ?_) AllReadyH.nil
                            go_simp
                            refine hK.out _ _ ⟨by rw [Below.heap_setCell _ _ _ _ (by exact hne1)]; exact hHeld.1, by rw [World.cell?_setCell_other _ _ _ _ (by intro e; cases e; omega)]; exact hHeld.2⟩ (fun _ => ?_)
                            clear hK K z1 zf hHeld
                            refine wpAnyH_done (by kernel_rfl) ?_ _
                            refine NoPanic.normal ?_
                            go_wp2_with fail
                            exact ⟨⟨j + 1, _, _, by omega, by go_num, by unfold Hid; rw [putL_len]; exact HCL'.out, HY7, HOK2⟩, by simp [intOf]; omega⟩
                          · clear hfar
                            have HPUT := Lib.hid (fun (V : World) (hy : LRX w1 V base c' s (.slice ba c'.length bc) (.slice sa s.length sc) w3.heap.size (.slice q1 l[m].code.length q2) (.slice q4 l[m].syms.length q5) (.slice (some ⟨rb, ro, none⟩) l[m].rels.length q8)) => rput_list2 (.slice ba c'.length bc) c' (p - base + rp) 4 n V hy.lr.by' (by rw [HCL'.out]; omega) (by decide) (by decide) (by omega) (by omega))
                            go_wp2_with (first | (go_at_call 32; refine HWH.out.mono ?_; rintro e w4 ⟨rfl, hb4⟩; obtain ⟨hy4, x0, x1, x2, x3, b4, hl4, hz4, hr4⟩ := HQ.out w4 hb4; have HY4 := Lib.hid hy4; have HRB4 := Lib.hid hr4; have HLL4 := Lib.hid hl4; obtain ⟨_, y1, y2, yf⟩ := HY4.out.lr.cells; clear hb4 hy4 hl4 hr4) | (go_at_call 33; refine (rsigned_as _ n _ (by first | exact HNN.out | (rw [wrap32_w]; exact HNN.out))).mono ?_; rintro e w5 ⟨rfl, rfl⟩) | fail)
                            have hbS : (wr.alloc (.cells #[.int .i64 rp, .int .i64 4, .string ⟨rn.toArray⟩, .int .i64 ra] 51)).heap[wr.heap.size]? = some (.cells #[.int .i64 rp, .int .i64 4, .string ⟨rn.toArray⟩, .int .i64 ra] 51 (0, 0)) := HRB.out
                            have hA5 : (wr.alloc (.cells #[.int .i64 rp, .int .i64 4, .string ⟨rn.toArray⟩, .int .i64 ra] 51)).cell? ⟨gb, m, none⟩ = some (.int .i64 p) := (HY1.out.lr.bel.cell (by exact hgb)).trans HBK.out
                            refine wp_region_noPanic ?_
                            refine wp_region_held_drew (S := fun W => W.heap[wr.heap.size]? = some (.cells #[.int .i64 rp, .int .i64 4, .string ⟨rn.toArray⟩, .int .i64 ra] 51 (0, 0)) ∧ W.cell? ⟨gb, m, none⟩ = some (.int .i64 p)) (by kernel_rfl) ⟨hbS, hA5⟩ (fun hHeld => ?_)
                            obtain ⟨V0, hV0⟩ : ∃ X, X = (wr.alloc (.cells #[.int .i64 rp, .int .i64 4, .string ⟨rn.toArray⟩, .int .i64 ra] 51)).drew := ⟨_, rfl⟩
                            have HLa := Lib.hid (HY1.out.go (W' := V0) (by rw [hV0]; exact (Below.refl _ _).drew))
                            have hsz0 : wr.heap.size < V0.heap.size := by rw [hV0]; exact (Array.getElem?_eq_some_iff.1 hbS).1
                            have hszg : gb < V0.heap.size := by have := HLa.out.lr.bel.size; omega
                            rw [← hV0] at hHeld ⊢
                            clear hV0 hbS hA5
                            refine take_at 0 193 (v := ?_) rfl rfl (by kernel_rfl) (by kernel_rfl) (by kernel_rfl) (fun _ _ _ h => h) rfl ?_ hHeld ?_
                            rotate_left
                            · intro w hSw
                              have x0 := cell_of_block (i := 0) hSw.1 rfl
                              have x1 := cell_of_block (i := 1) hSw.1 rfl
                              have x2 := hSw.2
                              go_simp
                              try with_reducible rfl
                            simp only [List.setIfInBounds_toArray, List.set_cons_zero, List.set_cons_succ]
                            refine take_at 2 195 (v := ?_) rfl rfl (by kernel_rfl) (by kernel_rfl) (by kernel_rfl) (fun _ _ _ h => h) rfl ?_ hHeld ?_
                            rotate_left
                            · intro w hSw
                              have x0 := cell_of_block (i := 0) hSw.1 rfl
                              have x1 := cell_of_block (i := 1) hSw.1 rfl
                              have x2 := hSw.2
                              go_simp
                              try with_reducible rfl
                            simp only [List.setIfInBounds_toArray, List.set_cons_zero, List.set_cons_succ]
                            refine take_at 3 196 (v := ?_) rfl rfl (by kernel_rfl) (by kernel_rfl) (by kernel_rfl) (fun _ _ _ h => h) rfl ?_ hHeld ?_
                            rotate_left
                            · intro w hSw
                              have x0 := cell_of_block (i := 0) hSw.1 rfl
                              have x1 := cell_of_block (i := 1) hSw.1 rfl
                              have x2 := hSw.2
                              go_simp
                              try with_reducible rfl
                            simp only [List.setIfInBounds_toArray, List.set_cons_zero, List.set_cons_succ]
                            refine take_at 4 197 (v := ?_) rfl rfl (by kernel_rfl) (by kernel_rfl) (by kernel_rfl) (fun _ _ _ h => h) rfl ?_ hHeld ?_
                            rotate_left
                            · intro w hSw
                              have x0 := cell_of_block (i := 0) hSw.1 rfl
                              have x1 := cell_of_block (i := 1) hSw.1 rfl
                              have x2 := hSw.2
                              go_simp
                              try with_reducible rfl
                            simp only [List.setIfInBounds_toArray, List.set_cons_zero, List.set_cons_succ]
                            refine take_at 5 198 (v := ?_) rfl rfl (by kernel_rfl) (by kernel_rfl) (by kernel_rfl) (fun _ _ _ h => h) rfl ?_ hHeld ?_
                            rotate_left
                            · intro w hSw
                              have x0 := cell_of_block (i := 0) hSw.1 rfl
                              have x1 := cell_of_block (i := 1) hSw.1 rfl
                              have x2 := hSw.2
                              go_simp
                              try with_reducible rfl
                            simp only [List.setIfInBounds_toArray, List.set_cons_zero, List.set_cons_succ]
                            refine take_at 6 199 (v := ?_) rfl rfl (by kernel_rfl) (by kernel_rfl) (by kernel_rfl) (fun _ _ _ h => h) rfl ?_ hHeld ?_
                            rotate_left
                            · intro w hSw
                              have x0 := cell_of_block (i := 0) hSw.1 rfl
                              have x1 := cell_of_block (i := 1) hSw.1 rfl
                              have x2 := hSw.2
                              go_simp
                              try with_reducible rfl
                            simp only [List.setIfInBounds_toArray, List.set_cons_zero, List.set_cons_succ]
                            refine take_at 7 200 (v := ?_) rfl rfl (by kernel_rfl) (by kernel_rfl) (by kernel_rfl) (fun _ _ _ h => h) rfl ?_ hHeld ?_
                            rotate_left
                            · intro w hSw
                              have x0 := cell_of_block (i := 0) hSw.1 rfl
                              have x1 := cell_of_block (i := 1) hSw.1 rfl
                              have x2 := hSw.2
                              go_simp
                              try with_reducible rfl
                            simp only [List.setIfInBounds_toArray, List.set_cons_zero, List.set_cons_succ]
                            refine take_at 8 201 (v := ?_) rfl rfl (by kernel_rfl) (by kernel_rfl) (by kernel_rfl) (fun _ _ _ h => h) rfl ?_ hHeld ?_
                            rotate_left
                            · intro w hSw
                              have x0 := cell_of_block (i := 0) hSw.1 rfl
                              have x1 := cell_of_block (i := 1) hSw.1 rfl
                              have x2 := hSw.2
                              go_simp
                              try with_reducible rfl
                            simp only [List.setIfInBounds_toArray, List.set_cons_zero, List.set_cons_succ]
                            refine take_at 9 202 (v := ?_) rfl rfl (by kernel_rfl) (by kernel_rfl) (by kernel_rfl) (fun _ _ _ h => h) rfl ?_ hHeld ?_
                            rotate_left
                            · intro w hSw
                              have x0 := cell_of_block (i := 0) hSw.1 rfl
                              have x1 := cell_of_block (i := 1) hSw.1 rfl
                              have x2 := hSw.2
                              go_simp
                              try with_reducible rfl
                            simp only [List.setIfInBounds_toArray, List.set_cons_zero, List.set_cons_succ]
                            refine take_at 10 203 (v := ?_) rfl rfl (by kernel_rfl) (by kernel_rfl) (by kernel_rfl) (fun _ _ _ h => h) rfl ?_ hHeld ?_
                            rotate_left
                            · intro w hSw
                              have x0 := cell_of_block (i := 0) hSw.1 rfl
                              have x1 := cell_of_block (i := 1) hSw.1 rfl
                              have x2 := hSw.2
                              go_simp
                              try with_reducible rfl
                            simp only [List.setIfInBounds_toArray, List.set_cons_zero, List.set_cons_succ]
                            refine take_at 11 204 (v := ?_) rfl rfl (by kernel_rfl) (by kernel_rfl) (by kernel_rfl) (fun _ _ _ h => h) rfl ?_ hHeld ?_
                            rotate_left
                            · intro w hSw
                              have x0 := cell_of_block (i := 0) hSw.1 rfl
                              have x1 := cell_of_block (i := 1) hSw.1 rfl
                              have x2 := hSw.2
                              go_simp
                              try with_reducible rfl
                            simp only [List.setIfInBounds_toArray, List.set_cons_zero, List.set_cons_succ]
                            refine take_at 12 205 (v := ?_) rfl rfl (by kernel_rfl) (by kernel_rfl) (by kernel_rfl) (fun _ _ _ h => h) rfl ?_ hHeld ?_
                            rotate_left
                            · intro w hSw
                              have x0 := cell_of_block (i := 0) hSw.1 rfl
                              have x1 := cell_of_block (i := 1) hSw.1 rfl
                              have x2 := hSw.2
                              go_simp
                              try with_reducible rfl
                            simp only [List.setIfInBounds_toArray, List.set_cons_zero, List.set_cons_succ]
                            refine take_at 13 206 (v := ?_) rfl rfl (by kernel_rfl) (by kernel_rfl) (by kernel_rfl) (fun _ _ _ h => h) rfl ?_ hHeld ?_
                            rotate_left
                            · intro w hSw
                              have x0 := cell_of_block (i := 0) hSw.1 rfl
                              have x1 := cell_of_block (i := 1) hSw.1 rfl
                              have x2 := hSw.2
                              go_simp
                              try with_reducible rfl
                            simp only [List.setIfInBounds_toArray, List.set_cons_zero, List.set_cons_succ]
                            refine wpAnyH_ready (rs := [1]) (by kernel_rfl) (by simp) ?_
                            refine AllReadyH.cons rfl (fun K hK => ?_) AllReadyH.nil
                            have xl := HLa.out.lr.cells.2.1
                            go_simp
                            refine hK.out _ _ hHeld (fun hHeld => ?_)
                            clear hK K xl
                            refine wpAnyH_ready (rs := [14]) (by kernel_rfl) (by simp) ?_
                            refine AllReadyH.cons rfl (fun K hK => ?_) AllReadyH.nil
                            go_simp
                            rw [show IntKind.i64.wrap (IntKind.i64.wrap (p - base) + rp) = p - base + rp by rw [IntKind.wrap_i64, IntKind.wrap_i64]; omega]
                            refine (HPUT.out _ HLa.out).mono ?_
                            rintro e w7 ⟨g, cg, rfl, hb7, hg7, ho7⟩
                            have HY7 := Lib.hid (HLa.out.put hg7 hb7 ho7)
                            have z1 := (HLa.out.go hb7).lr.cells.2.1
                            have zf := (HLa.out.go hb7).lr.cells.2.2.2
                            have hH3 := hHeld
                            rw [← hb7.block _ hsz0, ← hb7.cell (by exact hszg)] at hH3
                            have hne1 : wr.heap.size ≠ w1.heap.size := by have := HY.out.lr.size; omega
                            clear hb7 hg7 ho7 HPUT
                            go_simp
                            refine hK.out _ _ hH3 (fun hHeld => ?_)
                            clear hK K hH3
                            refine take_at 15 208 (v := ?_) rfl rfl (by kernel_rfl) (by kernel_rfl) (by kernel_rfl) (fun _ _ _ h => h) rfl ?_ hHeld ?_
                            rotate_left
                            · intro w hSw
                              have x0 := cell_of_block (i := 0) hSw.1 rfl
                              have x1 := cell_of_block (i := 1) hSw.1 rfl
                              have x2 := hSw.2
                              go_simp
                              try with_reducible rfl
                            simp only [List.setIfInBounds_toArray, List.set_cons_zero, List.set_cons_succ]
                            refine wpAnyH_ready (rs := [16]) (by kernel_rfl) (by simp) ?_
                            refine AllReadyH.cons rfl (fun K hK => ?_) AllReadyH.nil
                            go_simp
                            refine hK.out _ _ ⟨by rw [Below.heap_setCell _ _ _ _ (by exact hne1)]; exact hHeld.1, by rw [World.cell?_setCell_other _ _ _ _ (by intro e; cases e; omega)]; exact hHeld.2⟩ (fun _ => ?_)
                            clear hK K z1 zf hHeld
                            refine wpAnyH_done (by kernel_rfl) ?_ _
                            refine NoPanic.normal ?_
                            go_wp2_with fail
                            exact ⟨⟨j + 1, _, _, by omega, by go_num, by unfold Hid; rw [putL_len]; exact HCL'.out, HY7, HOK2⟩, by simp [intOf]; omega⟩
                      · have n1 : (rn == []) = false := by simpa using hn0
                        obtain ⟨p, hpA⟩ : ∃ p, p = whereL rn s := ⟨_, rfl⟩
                        have HPP : Hid ((if rn = [] then A else whereL rn s) = p) := by unfold Hid; rw [if_neg hn0, hpA]
                        have HWH := Lib.hid (rwhere_any rn (.slice sa s.length sc) s _ HY1.out.lr.sy)
                        rw [← hpA] at HWH
                        obtain ⟨n, HNN⟩ : ∃ n, Hid (wrap32 (p + ra) = n) := ⟨_, rfl⟩
                        have HQ : Hid (∀ V, Below (wr.alloc (.cells #[.int .i64 rp, .int .i64 rz, .string ⟨rn.toArray⟩, .int .i64 ra] 51)).heap.size (wr.alloc (.cells #[.int .i64 rp, .int .i64 rz, .string ⟨rn.toArray⟩, .int .i64 ra] 51)) V → LRX w1 V base c' s (.slice ba c'.length bc) (.slice sa s.length sc) w3.heap.size (.slice q1 l[m].code.length q2) (.slice q4 l[m].syms.length q5) (.slice (some ⟨rb, ro, none⟩) l[m].rels.length q8) ∧
                            V.cell? ⟨wr.heap.size, 0, none⟩ = some (.int .i64 rp) ∧ V.cell? ⟨wr.heap.size, 1, none⟩ = some (.int .i64 rz) ∧ V.cell? ⟨wr.heap.size, 2, none⟩ = some (.string ⟨rn.toArray⟩) ∧ V.cell? ⟨wr.heap.size, 3, none⟩ = some (.int .i64 ra) ∧ V.cell? ⟨gb, m, none⟩ = some (.int .i64 A) ∧ LB w V ∧ wr.heap.size < V.heap.size ∧ V.heap[wr.heap.size]? = some (.cells #[.int .i64 rp, .int .i64 rz, .string ⟨rn.toArray⟩, .int .i64 ra] 51 (0, 0))) := fun V hV => by
                          have hb : V.heap[wr.heap.size]? = _ := (hV.block _ (by simp)).trans HRB.out
                          exact ⟨HY1.out.go hV, blk_cell hb rfl, blk_cell hb rfl, blk_cell hb rfl, blk_cell hb rfl, ((HY1.out.go hV).lr.bel.cell (by exact hgb)).trans HBK.out, HLL.out.go hV, by have := hV.size; simp at this; omega, hb⟩
                        have y0 := HY1.out.lr.cells.2.2.1
                        clear hn0 hpA
                        by_cases hp00 : p < 0
                        · have HX := Lib.hid (HERR.out 6 (putRel_err HPP.out hp00))
                          clear HERR HOK hz24
                          go_wp2_with (first | (go_at_call 32; refine HWH.out.mono ?_; rintro e w4 ⟨rfl, hb4⟩; obtain ⟨hy4, x0, x1, x2, x3, b4, hl4, hz4, hr4⟩ := HQ.out w4 hb4; have HY4 := Lib.hid hy4; have HRB4 := Lib.hid hr4; have HLL4 := Lib.hid hl4; obtain ⟨_, y1, y2, yf⟩ := HY4.out.lr.cells; clear hb4 hy4 hl4 hr4) | (go_at_call 33; refine (rsigned_as _ n _ (by first | exact HNN.out | (rw [wrap32_w]; exact HNN.out))).mono ?_; rintro e w5 ⟨rfl, rfl⟩) | (go_at_call 30; refine (rno_any _ _ _).mono ?_; unfold noV; rintro e w6 ⟨rfl, hb6⟩; have HLE := Lib.hid (HLL4.out.go hb6); obtain ⟨n0, n1, n2, n3, n4, f0, f1, f2, f3, f4⟩ := HLE.out.cells; have hz := HLE.out.lt; clear hb6))
                          refine bodyPost_ret (v := .tuple #[.agg #[.int .i64 0, .slice none 0 0, .slice none 0 0], .agg #[.int .i64 (6), .int .i64 (m)]]) (by simp [results, Try.results11, go_sem, n0, n1, n2, n3, n4]) rfl ?_
                          exact ⟨HLE.out.five _ _ _ _ _, by rw [HX.out]; rfl⟩
                        · by_cases hfar : rz = 2 ∧ (65535 < n ∨ n < -32768)
                          · have HX := Lib.hid (HERR.out 3 (putRel_far HPP.out hp00 (by rw [HNN.out]; exact hfar)))
                            obtain ⟨rfl, hfar⟩ := hfar
                            clear HERR HOK hz24
                            by_cases hf1 : 65535 < n
                            · clear hfar
                              go_wp2_with (first | (go_at_call 32; refine HWH.out.mono ?_; rintro e w4 ⟨rfl, hb4⟩; obtain ⟨hy4, x0, x1, x2, x3, b4, hl4, hz4, hr4⟩ := HQ.out w4 hb4; have HY4 := Lib.hid hy4; have HRB4 := Lib.hid hr4; have HLL4 := Lib.hid hl4; obtain ⟨_, y1, y2, yf⟩ := HY4.out.lr.cells; clear hb4 hy4 hl4 hr4) | (go_at_call 33; refine (rsigned_as _ n _ (by first | exact HNN.out | (rw [wrap32_w]; exact HNN.out))).mono ?_; rintro e w5 ⟨rfl, rfl⟩) | (go_at_call 30; refine (rno_any _ _ _).mono ?_; unfold noV; rintro e w6 ⟨rfl, hb6⟩; have HLE := Lib.hid (HLL4.out.go hb6); obtain ⟨n0, n1, n2, n3, n4, f0, f1, f2, f3, f4⟩ := HLE.out.cells; have hz := HLE.out.lt; clear hb6))
                              refine bodyPost_ret (v := .tuple #[.agg #[.int .i64 0, .slice none 0 0, .slice none 0 0], .agg #[.int .i64 (3), .int .i64 (m)]]) (by simp [results, Try.results11, go_sem, n0, n1, n2, n3, n4]) rfl ?_
                              exact ⟨HLE.out.five _ _ _ _ _, by rw [HX.out]; rfl⟩
                            · have hf2 : n < -32768 := by omega
                              clear hfar
                              go_wp2_with (first | (go_at_call 32; refine HWH.out.mono ?_; rintro e w4 ⟨rfl, hb4⟩; obtain ⟨hy4, x0, x1, x2, x3, b4, hl4, hz4, hr4⟩ := HQ.out w4 hb4; have HY4 := Lib.hid hy4; have HRB4 := Lib.hid hr4; have HLL4 := Lib.hid hl4; obtain ⟨_, y1, y2, yf⟩ := HY4.out.lr.cells; clear hb4 hy4 hl4 hr4) | (go_at_call 33; refine (rsigned_as _ n _ (by first | exact HNN.out | (rw [wrap32_w]; exact HNN.out))).mono ?_; rintro e w5 ⟨rfl, rfl⟩) | (go_at_call 30; refine (rno_any _ _ _).mono ?_; unfold noV; rintro e w6 ⟨rfl, hb6⟩; have HLE := Lib.hid (HLL4.out.go hb6); obtain ⟨n0, n1, n2, n3, n4, f0, f1, f2, f3, f4⟩ := HLE.out.cells; have hz := HLE.out.lt; clear hb6))
                              refine bodyPost_ret (v := .tuple #[.agg #[.int .i64 0, .slice none 0 0, .slice none 0 0], .agg #[.int .i64 (3), .int .i64 (m)]]) (by simp [results, Try.results11, go_sem, n0, n1, n2, n3, n4]) rfl ?_
                              exact ⟨HLE.out.five _ _ _ _ _, by rw [HX.out]; rfl⟩
                          · have HOK2 := Lib.hid (HOK.out _ (putRel_ok HPP.out hp00 (by rw [HNN.out]; exact hfar)))
                            rw [HNN.out] at HOK2
                            clear HERR HOK
                            rcases hz24 with rfl | rfl
                            · have hf1 : ¬ 65535 < n := by omega
                              have hf2 : ¬ n < -32768 := by omega
                              clear hfar
                              have HPUT := Lib.hid (fun (V : World) (hy : LRX w1 V base c' s (.slice ba c'.length bc) (.slice sa s.length sc) w3.heap.size (.slice q1 l[m].code.length q2) (.slice q4 l[m].syms.length q5) (.slice (some ⟨rb, ro, none⟩) l[m].rels.length q8)) => rput_list2 (.slice ba c'.length bc) c' (A - base + rp) 2 n V hy.lr.by' (by rw [HCL'.out]; omega) (by decide) (by decide) (by omega) (by omega))
                              go_wp2_with (first | (go_at_call 32; refine HWH.out.mono ?_; rintro e w4 ⟨rfl, hb4⟩; obtain ⟨hy4, x0, x1, x2, x3, b4, hl4, hz4, hr4⟩ := HQ.out w4 hb4; have HY4 := Lib.hid hy4; have HRB4 := Lib.hid hr4; have HLL4 := Lib.hid hl4; obtain ⟨_, y1, y2, yf⟩ := HY4.out.lr.cells; clear hb4 hy4 hl4 hr4) | (go_at_call 33; refine (rsigned_as _ n _ (by first | exact HNN.out | (rw [wrap32_w]; exact HNN.out))).mono ?_; rintro e w5 ⟨rfl, rfl⟩) | fail)
                              have hbS : w4.heap[wr.heap.size]? = some (.cells #[.int .i64 rp, .int .i64 2, .string ⟨rn.toArray⟩, .int .i64 ra] 51 (0, 0)) := HRB4.out
                              have hA5 : w4.cell? ⟨gb, m, none⟩ = some (.int .i64 A) := (HY4.out.lr.bel.cell (by exact hgb)).trans HBK.out
                              refine wp_region_noPanic ?_
                              refine wp_region_held_drew (S := fun W => W.heap[wr.heap.size]? = some (.cells #[.int .i64 rp, .int .i64 2, .string ⟨rn.toArray⟩, .int .i64 ra] 51 (0, 0)) ∧ W.cell? ⟨gb, m, none⟩ = some (.int .i64 A)) (by kernel_rfl) ⟨hbS, hA5⟩ (fun hHeld => ?_)
                              obtain ⟨V0, hV0⟩ : ∃ X, X = w4.drew := ⟨_, rfl⟩
                              have HLa := Lib.hid (HY4.out.go (W' := V0) (by rw [hV0]; exact (Below.refl _ _).drew))
                              have hsz0 : wr.heap.size < V0.heap.size := by rw [hV0]; exact (Array.getElem?_eq_some_iff.1 hbS).1
                              have hszg : gb < V0.heap.size := by have := HLa.out.lr.bel.size; omega
                              rw [← hV0] at hHeld ⊢
                              clear hV0 hbS hA5
                              refine take_at 0 193 (v := ?_) rfl rfl (by kernel_rfl) (by kernel_rfl) (by kernel_rfl) (fun _ _ _ h => h) rfl ?_ hHeld ?_
                              rotate_left
                              · intro w hSw
                                have x0 := cell_of_block (i := 0) hSw.1 rfl
                                have x1 := cell_of_block (i := 1) hSw.1 rfl
                                have x2 := hSw.2
                                go_simp
                                try with_reducible rfl
                              simp only [List.setIfInBounds_toArray, List.set_cons_zero, List.set_cons_succ]
                              refine take_at 2 195 (v := ?_) rfl rfl (by kernel_rfl) (by kernel_rfl) (by kernel_rfl) (fun _ _ _ h => h) rfl ?_ hHeld ?_
                              rotate_left
                              · intro w hSw
                                have x0 := cell_of_block (i := 0) hSw.1 rfl
                                have x1 := cell_of_block (i := 1) hSw.1 rfl
                                have x2 := hSw.2
                                go_simp
                                try with_reducible rfl
                              simp only [List.setIfInBounds_toArray, List.set_cons_zero, List.set_cons_succ]
                              refine take_at 3 196 (v := ?_) rfl rfl (by kernel_rfl) (by kernel_rfl) (by kernel_rfl) (fun _ _ _ h => h) rfl ?_ hHeld ?_
                              rotate_left
                              · intro w hSw
                                have x0 := cell_of_block (i := 0) hSw.1 rfl
                                have x1 := cell_of_block (i := 1) hSw.1 rfl
                                have x2 := hSw.2
                                go_simp
                                try with_reducible rfl
                              simp only [List.setIfInBounds_toArray, List.set_cons_zero, List.set_cons_succ]
                              refine take_at 4 197 (v := ?_) rfl rfl (by kernel_rfl) (by kernel_rfl) (by kernel_rfl) (fun _ _ _ h => h) rfl ?_ hHeld ?_
                              rotate_left
                              · intro w hSw
                                have x0 := cell_of_block (i := 0) hSw.1 rfl
                                have x1 := cell_of_block (i := 1) hSw.1 rfl
                                have x2 := hSw.2
                                go_simp
                                try with_reducible rfl
                              simp only [List.setIfInBounds_toArray, List.set_cons_zero, List.set_cons_succ]
                              refine take_at 5 198 (v := ?_) rfl rfl (by kernel_rfl) (by kernel_rfl) (by kernel_rfl) (fun _ _ _ h => h) rfl ?_ hHeld ?_
                              rotate_left
                              · intro w hSw
                                have x0 := cell_of_block (i := 0) hSw.1 rfl
                                have x1 := cell_of_block (i := 1) hSw.1 rfl
                                have x2 := hSw.2
                                go_simp
                                try with_reducible rfl
                              simp only [List.setIfInBounds_toArray, List.set_cons_zero, List.set_cons_succ]
                              refine take_at 6 199 (v := ?_) rfl rfl (by kernel_rfl) (by kernel_rfl) (by kernel_rfl) (fun _ _ _ h => h) rfl ?_ hHeld ?_
                              rotate_left
                              · intro w hSw
                                have x0 := cell_of_block (i := 0) hSw.1 rfl
                                have x1 := cell_of_block (i := 1) hSw.1 rfl
                                have x2 := hSw.2
                                go_simp
                                try with_reducible rfl
                              simp only [List.setIfInBounds_toArray, List.set_cons_zero, List.set_cons_succ]
                              refine take_at 7 200 (v := ?_) rfl rfl (by kernel_rfl) (by kernel_rfl) (by kernel_rfl) (fun _ _ _ h => h) rfl ?_ hHeld ?_
                              rotate_left
                              · intro w hSw
                                have x0 := cell_of_block (i := 0) hSw.1 rfl
                                have x1 := cell_of_block (i := 1) hSw.1 rfl
                                have x2 := hSw.2
                                go_simp
                                try with_reducible rfl
                              simp only [List.setIfInBounds_toArray, List.set_cons_zero, List.set_cons_succ]
                              refine take_at 8 201 (v := ?_) rfl rfl (by kernel_rfl) (by kernel_rfl) (by kernel_rfl) (fun _ _ _ h => h) rfl ?_ hHeld ?_
                              rotate_left
                              · intro w hSw
                                have x0 := cell_of_block (i := 0) hSw.1 rfl
                                have x1 := cell_of_block (i := 1) hSw.1 rfl
                                have x2 := hSw.2
                                go_simp
                                try with_reducible rfl
                              simp only [List.setIfInBounds_toArray, List.set_cons_zero, List.set_cons_succ]
                              refine take_at 9 202 (v := ?_) rfl rfl (by kernel_rfl) (by kernel_rfl) (by kernel_rfl) (fun _ _ _ h => h) rfl ?_ hHeld ?_
                              rotate_left
                              · intro w hSw
                                have x0 := cell_of_block (i := 0) hSw.1 rfl
                                have x1 := cell_of_block (i := 1) hSw.1 rfl
                                have x2 := hSw.2
                                go_simp
                                try with_reducible rfl
                              simp only [List.setIfInBounds_toArray, List.set_cons_zero, List.set_cons_succ]
                              refine take_at 10 203 (v := ?_) rfl rfl (by kernel_rfl) (by kernel_rfl) (by kernel_rfl) (fun _ _ _ h => h) rfl ?_ hHeld ?_
                              rotate_left
                              · intro w hSw
                                have x0 := cell_of_block (i := 0) hSw.1 rfl
                                have x1 := cell_of_block (i := 1) hSw.1 rfl
                                have x2 := hSw.2
                                go_simp
                                try with_reducible rfl
                              simp only [List.setIfInBounds_toArray, List.set_cons_zero, List.set_cons_succ]
                              refine take_at 11 204 (v := ?_) rfl rfl (by kernel_rfl) (by kernel_rfl) (by kernel_rfl) (fun _ _ _ h => h) rfl ?_ hHeld ?_
                              rotate_left
                              · intro w hSw
                                have x0 := cell_of_block (i := 0) hSw.1 rfl
                                have x1 := cell_of_block (i := 1) hSw.1 rfl
                                have x2 := hSw.2
                                go_simp
                                try with_reducible rfl
                              simp only [List.setIfInBounds_toArray, List.set_cons_zero, List.set_cons_succ]
                              refine take_at 12 205 (v := ?_) rfl rfl (by kernel_rfl) (by kernel_rfl) (by kernel_rfl) (fun _ _ _ h => h) rfl ?_ hHeld ?_
                              rotate_left
                              · intro w hSw
                                have x0 := cell_of_block (i := 0) hSw.1 rfl
                                have x1 := cell_of_block (i := 1) hSw.1 rfl
                                have x2 := hSw.2
                                go_simp
                                try with_reducible rfl
                              simp only [List.setIfInBounds_toArray, List.set_cons_zero, List.set_cons_succ]
                              refine take_at 13 206 (v := ?_) rfl rfl (by kernel_rfl) (by kernel_rfl) (by kernel_rfl) (fun _ _ _ h => h) rfl ?_ hHeld ?_
                              rotate_left
                              · intro w hSw
                                have x0 := cell_of_block (i := 0) hSw.1 rfl
                                have x1 := cell_of_block (i := 1) hSw.1 rfl
                                have x2 := hSw.2
                                go_simp
                                try with_reducible rfl
                              simp only [List.setIfInBounds_toArray, List.set_cons_zero, List.set_cons_succ]
                              refine wpAnyH_ready (rs := [1]) (by kernel_rfl) (by simp) ?_
                              refine AllReadyH.cons rfl (fun K hK => ?_) AllReadyH.nil
                              have xl := HLa.out.lr.cells.2.1
                              go_simp
                              refine hK.out _ _ hHeld (fun hHeld => ?_)
                              clear hK K xl
                              refine wpAnyH_ready (rs := [14]) (by kernel_rfl) (by simp) ?_
                              refine AllReadyH.cons rfl (fun K hK => ?_) AllReadyH.nil
                              go_simp
                              rw [show IntKind.i64.wrap (IntKind.i64.wrap (A - base) + rp) = A - base + rp by rw [IntKind.wrap_i64, IntKind.wrap_i64]; omega]
                              refine (HPUT.out _ HLa.out).mono ?_
                              rintro e w7 ⟨g, cg, rfl, hb7, hg7, ho7⟩
                              have HY7 := Lib.hid (HLa.out.put hg7 hb7 ho7)
                              have z1 := (HLa.out.go hb7).lr.cells.2.1
                              have zf := (HLa.out.go hb7).lr.cells.2.2.2
                              have hH3 := hHeld
                              rw [← hb7.block _ hsz0, ← hb7.cell (by exact hszg)] at hH3
                              have hne1 : wr.heap.size ≠ w1.heap.size := by have := HY.out.lr.size; omega
                              clear hb7 hg7 ho7 HPUT
                              go_simp
                              refine hK.out _ _ hH3 (fun hHeld => ?_)
                              clear hK K hH3
                              refine take_at 15 208 (v := ?_) rfl rfl (by kernel_rfl) (by kernel_rfl) (by kernel_rfl) (fun _ _ _ h => h) rfl ?_ hHeld ?_
                              rotate_left
                              · intro w hSw
                                have x0 := cell_of_block (i := 0) hSw.1 rfl
                                have x1 := cell_of_block (i := 1) hSw.1 rfl
                                have x2 := hSw.2
                                go_simp
                                try with_reducible rfl
                              simp only [List.setIfInBounds_toArray, List.set_cons_zero, List.set_cons_succ]
                              refine wpAnyH_ready (rs := [16]) (by kernel_rfl) (by simp) ?_
                              refine AllReadyH.cons rfl (fun K hK => ?_) AllReadyH.nil
                              go_simp
                              refine hK.out _ _ ⟨by rw [Below.heap_setCell _ _ _ _ (by exact hne1)]; exact hHeld.1, by rw [World.cell?_setCell_other _ _ _ _ (by intro e; cases e; omega)]; exact hHeld.2⟩ (fun _ => ?_)
                              clear hK K z1 zf hHeld
                              refine wpAnyH_done (by kernel_rfl) ?_ _
                              refine NoPanic.normal ?_
                              go_wp2_with fail
                              exact ⟨⟨j + 1, _, _, by omega, by go_num, by unfold Hid; rw [putL_len]; exact HCL'.out, HY7, HOK2⟩, by simp [intOf]; omega⟩
                            · clear hfar
                              have HPUT := Lib.hid (fun (V : World) (hy : LRX w1 V base c' s (.slice ba c'.length bc) (.slice sa s.length sc) w3.heap.size (.slice q1 l[m].code.length q2) (.slice q4 l[m].syms.length q5) (.slice (some ⟨rb, ro, none⟩) l[m].rels.length q8)) => rput_list2 (.slice ba c'.length bc) c' (A - base + rp) 4 n V hy.lr.by' (by rw [HCL'.out]; omega) (by decide) (by decide) (by omega) (by omega))
                              go_wp2_with (first | (go_at_call 32; refine HWH.out.mono ?_; rintro e w4 ⟨rfl, hb4⟩; obtain ⟨hy4, x0, x1, x2, x3, b4, hl4, hz4, hr4⟩ := HQ.out w4 hb4; have HY4 := Lib.hid hy4; have HRB4 := Lib.hid hr4; have HLL4 := Lib.hid hl4; obtain ⟨_, y1, y2, yf⟩ := HY4.out.lr.cells; clear hb4 hy4 hl4 hr4) | (go_at_call 33; refine (rsigned_as _ n _ (by first | exact HNN.out | (rw [wrap32_w]; exact HNN.out))).mono ?_; rintro e w5 ⟨rfl, rfl⟩) | fail)
                              have hbS : w4.heap[wr.heap.size]? = some (.cells #[.int .i64 rp, .int .i64 4, .string ⟨rn.toArray⟩, .int .i64 ra] 51 (0, 0)) := HRB4.out
                              have hA5 : w4.cell? ⟨gb, m, none⟩ = some (.int .i64 A) := (HY4.out.lr.bel.cell (by exact hgb)).trans HBK.out
                              refine wp_region_noPanic ?_
                              refine wp_region_held_drew (S := fun W => W.heap[wr.heap.size]? = some (.cells #[.int .i64 rp, .int .i64 4, .string ⟨rn.toArray⟩, .int .i64 ra] 51 (0, 0)) ∧ W.cell? ⟨gb, m, none⟩ = some (.int .i64 A)) (by kernel_rfl) ⟨hbS, hA5⟩ (fun hHeld => ?_)
                              obtain ⟨V0, hV0⟩ : ∃ X, X = w4.drew := ⟨_, rfl⟩
                              have HLa := Lib.hid (HY4.out.go (W' := V0) (by rw [hV0]; exact (Below.refl _ _).drew))
                              have hsz0 : wr.heap.size < V0.heap.size := by rw [hV0]; exact (Array.getElem?_eq_some_iff.1 hbS).1
                              have hszg : gb < V0.heap.size := by have := HLa.out.lr.bel.size; omega
                              rw [← hV0] at hHeld ⊢
                              clear hV0 hbS hA5
                              refine take_at 0 193 (v := ?_) rfl rfl (by kernel_rfl) (by kernel_rfl) (by kernel_rfl) (fun _ _ _ h => h) rfl ?_ hHeld ?_
                              rotate_left
                              · intro w hSw
                                have x0 := cell_of_block (i := 0) hSw.1 rfl
                                have x1 := cell_of_block (i := 1) hSw.1 rfl
                                have x2 := hSw.2
                                go_simp
                                try with_reducible rfl
                              simp only [List.setIfInBounds_toArray, List.set_cons_zero, List.set_cons_succ]
                              refine take_at 2 195 (v := ?_) rfl rfl (by kernel_rfl) (by kernel_rfl) (by kernel_rfl) (fun _ _ _ h => h) rfl ?_ hHeld ?_
                              rotate_left
                              · intro w hSw
                                have x0 := cell_of_block (i := 0) hSw.1 rfl
                                have x1 := cell_of_block (i := 1) hSw.1 rfl
                                have x2 := hSw.2
                                go_simp
                                try with_reducible rfl
                              simp only [List.setIfInBounds_toArray, List.set_cons_zero, List.set_cons_succ]
                              refine take_at 3 196 (v := ?_) rfl rfl (by kernel_rfl) (by kernel_rfl) (by kernel_rfl) (fun _ _ _ h => h) rfl ?_ hHeld ?_
                              rotate_left
                              · intro w hSw
                                have x0 := cell_of_block (i := 0) hSw.1 rfl
                                have x1 := cell_of_block (i := 1) hSw.1 rfl
                                have x2 := hSw.2
                                go_simp
                                try with_reducible rfl
                              simp only [List.setIfInBounds_toArray, List.set_cons_zero, List.set_cons_succ]
                              refine take_at 4 197 (v := ?_) rfl rfl (by kernel_rfl) (by kernel_rfl) (by kernel_rfl) (fun _ _ _ h => h) rfl ?_ hHeld ?_
                              rotate_left
                              · intro w hSw
                                have x0 := cell_of_block (i := 0) hSw.1 rfl
                                have x1 := cell_of_block (i := 1) hSw.1 rfl
                                have x2 := hSw.2
                                go_simp
                                try with_reducible rfl
                              simp only [List.setIfInBounds_toArray, List.set_cons_zero, List.set_cons_succ]
                              refine take_at 5 198 (v := ?_) rfl rfl (by kernel_rfl) (by kernel_rfl) (by kernel_rfl) (fun _ _ _ h => h) rfl ?_ hHeld ?_
                              rotate_left
                              · intro w hSw
                                have x0 := cell_of_block (i := 0) hSw.1 rfl
                                have x1 := cell_of_block (i := 1) hSw.1 rfl
                                have x2 := hSw.2
                                go_simp
                                try with_reducible rfl
                              simp only [List.setIfInBounds_toArray, List.set_cons_zero, List.set_cons_succ]
                              refine take_at 6 199 (v := ?_) rfl rfl (by kernel_rfl) (by kernel_rfl) (by kernel_rfl) (fun _ _ _ h => h) rfl ?_ hHeld ?_
                              rotate_left
                              · intro w hSw
                                have x0 := cell_of_block (i := 0) hSw.1 rfl
                                have x1 := cell_of_block (i := 1) hSw.1 rfl
                                have x2 := hSw.2
                                go_simp
                                try with_reducible rfl
                              simp only [List.setIfInBounds_toArray, List.set_cons_zero, List.set_cons_succ]
                              refine take_at 7 200 (v := ?_) rfl rfl (by kernel_rfl) (by kernel_rfl) (by kernel_rfl) (fun _ _ _ h => h) rfl ?_ hHeld ?_
                              rotate_left
                              · intro w hSw
                                have x0 := cell_of_block (i := 0) hSw.1 rfl
                                have x1 := cell_of_block (i := 1) hSw.1 rfl
                                have x2 := hSw.2
                                go_simp
                                try with_reducible rfl
                              simp only [List.setIfInBounds_toArray, List.set_cons_zero, List.set_cons_succ]
                              refine take_at 8 201 (v := ?_) rfl rfl (by kernel_rfl) (by kernel_rfl) (by kernel_rfl) (fun _ _ _ h => h) rfl ?_ hHeld ?_
                              rotate_left
                              · intro w hSw
                                have x0 := cell_of_block (i := 0) hSw.1 rfl
                                have x1 := cell_of_block (i := 1) hSw.1 rfl
                                have x2 := hSw.2
                                go_simp
                                try with_reducible rfl
                              simp only [List.setIfInBounds_toArray, List.set_cons_zero, List.set_cons_succ]
                              refine take_at 9 202 (v := ?_) rfl rfl (by kernel_rfl) (by kernel_rfl) (by kernel_rfl) (fun _ _ _ h => h) rfl ?_ hHeld ?_
                              rotate_left
                              · intro w hSw
                                have x0 := cell_of_block (i := 0) hSw.1 rfl
                                have x1 := cell_of_block (i := 1) hSw.1 rfl
                                have x2 := hSw.2
                                go_simp
                                try with_reducible rfl
                              simp only [List.setIfInBounds_toArray, List.set_cons_zero, List.set_cons_succ]
                              refine take_at 10 203 (v := ?_) rfl rfl (by kernel_rfl) (by kernel_rfl) (by kernel_rfl) (fun _ _ _ h => h) rfl ?_ hHeld ?_
                              rotate_left
                              · intro w hSw
                                have x0 := cell_of_block (i := 0) hSw.1 rfl
                                have x1 := cell_of_block (i := 1) hSw.1 rfl
                                have x2 := hSw.2
                                go_simp
                                try with_reducible rfl
                              simp only [List.setIfInBounds_toArray, List.set_cons_zero, List.set_cons_succ]
                              refine take_at 11 204 (v := ?_) rfl rfl (by kernel_rfl) (by kernel_rfl) (by kernel_rfl) (fun _ _ _ h => h) rfl ?_ hHeld ?_
                              rotate_left
                              · intro w hSw
                                have x0 := cell_of_block (i := 0) hSw.1 rfl
                                have x1 := cell_of_block (i := 1) hSw.1 rfl
                                have x2 := hSw.2
                                go_simp
                                try with_reducible rfl
                              simp only [List.setIfInBounds_toArray, List.set_cons_zero, List.set_cons_succ]
                              refine take_at 12 205 (v := ?_) rfl rfl (by kernel_rfl) (by kernel_rfl) (by kernel_rfl) (fun _ _ _ h => h) rfl ?_ hHeld ?_
                              rotate_left
                              · intro w hSw
                                have x0 := cell_of_block (i := 0) hSw.1 rfl
                                have x1 := cell_of_block (i := 1) hSw.1 rfl
                                have x2 := hSw.2
                                go_simp
                                try with_reducible rfl
                              simp only [List.setIfInBounds_toArray, List.set_cons_zero, List.set_cons_succ]
                              refine take_at 13 206 (v := ?_) rfl rfl (by kernel_rfl) (by kernel_rfl) (by kernel_rfl) (fun _ _ _ h => h) rfl ?_ hHeld ?_
                              rotate_left
                              · intro w hSw
                                have x0 := cell_of_block (i := 0) hSw.1 rfl
                                have x1 := cell_of_block (i := 1) hSw.1 rfl
                                have x2 := hSw.2
                                go_simp
                                try with_reducible rfl
                              simp only [List.setIfInBounds_toArray, List.set_cons_zero, List.set_cons_succ]
                              refine wpAnyH_ready (rs := [1]) (by kernel_rfl) (by simp) ?_
                              refine AllReadyH.cons rfl (fun K hK => ?_) AllReadyH.nil
                              have xl := HLa.out.lr.cells.2.1
                              go_simp
                              refine hK.out _ _ hHeld (fun hHeld => ?_)
                              clear hK K xl
                              refine wpAnyH_ready (rs := [14]) (by kernel_rfl) (by simp) ?_
                              refine AllReadyH.cons rfl (fun K hK => ?_) AllReadyH.nil
                              go_simp
                              rw [show IntKind.i64.wrap (IntKind.i64.wrap (A - base) + rp) = A - base + rp by rw [IntKind.wrap_i64, IntKind.wrap_i64]; omega]
                              refine (HPUT.out _ HLa.out).mono ?_
                              rintro e w7 ⟨g, cg, rfl, hb7, hg7, ho7⟩
                              have HY7 := Lib.hid (HLa.out.put hg7 hb7 ho7)
                              have z1 := (HLa.out.go hb7).lr.cells.2.1
                              have zf := (HLa.out.go hb7).lr.cells.2.2.2
                              have hH3 := hHeld
                              rw [← hb7.block _ hsz0, ← hb7.cell (by exact hszg)] at hH3
                              have hne1 : wr.heap.size ≠ w1.heap.size := by have := HY.out.lr.size; omega
                              clear hb7 hg7 ho7 HPUT
                              go_simp
                              refine hK.out _ _ hH3 (fun hHeld => ?_)
                              clear hK K hH3
                              refine take_at 15 208 (v := ?_) rfl rfl (by kernel_rfl) (by kernel_rfl) (by kernel_rfl) (fun _ _ _ h => h) rfl ?_ hHeld ?_
                              rotate_left
                              · intro w hSw
                                have x0 := cell_of_block (i := 0) hSw.1 rfl
                                have x1 := cell_of_block (i := 1) hSw.1 rfl
                                have x2 := hSw.2
                                go_simp
                                try with_reducible rfl
                              simp only [List.setIfInBounds_toArray, List.set_cons_zero, List.set_cons_succ]
                              refine wpAnyH_ready (rs := [16]) (by kernel_rfl) (by simp) ?_
                              refine AllReadyH.cons rfl (fun K hK => ?_) AllReadyH.nil
                              go_simp
                              refine hK.out _ _ ⟨by rw [Below.heap_setCell _ _ _ _ (by exact hne1)]; exact hHeld.1, by rw [World.cell?_setCell_other _ _ _ _ (by intro e; cases e; omega)]; exact hHeld.2⟩ (fun _ => ?_)
                              clear hK K z1 zf hHeld
                              refine wpAnyH_done (by kernel_rfl) ?_ _
                              refine NoPanic.normal ?_
                              go_wp2_with fail
                              exact ⟨⟨j + 1, _, _, by omega, by go_num, by unfold Hid; rw [putL_len]; exact HCL'.out, HY7, HOK2⟩, by simp [intOf]; omega⟩
                    · have hj1 : ¬ (j : Int) < l[m].rels.length := by omega
                      have HPE : Hid (putRels s base A c l[m].rels = .ok c') := by unfold Hid; rw [HP.out, List.drop_eq_nil_of_le (by omega)]; rfl
                      have HE3 : Hid (relL s base 0 b (l.zip (basesL base l)) = relL s base (m + 1) c' ((l.zip (basesL base l)).drop (m + 1))) := by unfold Hid; rw [HE2.out, HPE.out]
                      go_wp2_with fail
                      exact ⟨⟨m + 1, c', _, by omega, by go_num, HCL', HY.out.lr, HE3⟩, by simp [intOf]; omega⟩
                · have hm1 : ¬ (m : Int) < l.length := by omega
                  have HX : Hid (linkL nameR l base = .ok (c, s)) := by unfold Hid; rw [HLS.out]; simp only [linkS, HE.out]; rw [relL_end (by omega)]
                  obtain ⟨ba, bc, hcv, _⟩ := id HLR.out.by'
                  obtain ⟨sa, sc, hsv, _⟩ := id HLR.out.sy
                  subst hcv hsv
                  obtain ⟨r0, r1, r2, r3⟩ := HLR.out.cells
                  have HL3 := Lib.hid (HL1.out.go HLR.out.bel)
                  obtain ⟨n0, n1, n2, n3, n4, f0, f1, f2, f3, f4⟩ := HL3.out.cells
                  have hz := HL3.out.lt
                  have hz3 := HL1.out.lt
                  have hz4 := HLR.out.size
                  go_wp2_with fail
                  refine bodyPost_ret (v := .tuple #[.agg #[.int .i64 base, .slice ba c.length bc, .slice sa s.length sc], .agg #[.int .i64 0, .int .i64 0]]) (by simp [results, Try.results11, go_sem, n0, n1, n2, n3, n4]) rfl ?_
                  exact ⟨HL3.out.five _ _ _ _ _, by rw [HX.out]; exact ⟨_, _, rfl, HLR.out.five hz3 _ _ _ _ _⟩⟩

end Go.Proofs.Ytalghejeekajgad
