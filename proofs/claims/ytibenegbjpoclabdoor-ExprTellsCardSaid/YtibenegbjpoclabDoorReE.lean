/- The contract of the document's Prime: brackets; the whole. -/
import Derived.Test.YtibenegbjpoclabDoorReD
namespace Go.Proofs.YtibenegbjpoclabDoor
open Go.RowKit

theorem sign_lt {ts : List Tok} {c : Nat} {s : List UInt8} (h : signOf (ts.drop c) = s) (hs : s ≠ []) : c < ts.length := by
  by_cases hl : c < ts.length
  · exact hl
  · rw [List.drop_eq_nil_of_le (by omega)] at h
    exact absurd h.symm hs

set_option maxHeartbeats 8000000 in
set_option maxRecDepth 100000 in
theorem prime_open (Q : Nat) (ts : List Tok) (c deep : Nat) (w : World) (h6' : deep ≤ 6) (hC : Cl w Q ts c) (hlt : c < ts.length) (hP : ∀ c', c < c' → ClimbOK Q ts c') (hs : signOf (ts.drop c) = [40]) :
    Calls Tryd.prog 34 #[.pointer (some ⟨Q, 0, none⟩), .int .i64 deep] w fun e w' => (∃ r, Pr deep (ts.drop c) r ∧ RAns w' Q w.heap.size ts c deep r e) ∧ w.grownBy w' (some Q) := by
  have hQw := hC.1.lt
  have h6 : ¬ (6 : Int) < deep := by omega
  have HTL : Hid ((ts.drop c).tail = ts.drop (c + 1)) := by rw [drop_tok hlt]; rfl
  have HS : Hid (signOf (ts.drop c) = [40]) := hs
  have HC : Hid (Cl w Q ts c) := hC
  have hfew := hC.1.few
  unfold maxLen at hfew
  have hsign := sign_any Q (Q + 1) ts c [] _ (HC.out.alloc (.cells #[.int .i64 0, .int .i64 0, .string ⟨#[]⟩, .slice none 0 0] 25)).1
  rw [hs] at hsign
  clear hC hs
  go_enter Tryd.func34, Tryd.ntmps34
  go_wp2_with fail
  refine hsign.mono ?_
  rintro e w1 ⟨rfl, hb1⟩
  have hC1 : Cl w1 Q ts c := (HC.out.alloc _).below hb1
  have hG1 : w.grownBy w1 (some Q) := gtrans (galloc _ _ _) (gbelow _ hb1 (Nat.le_refl _))
  have hz1 : w.heap.size < w1.heap.size := by have := hb1.size; simp at this; omega
  have hV1 := (var4_new w (.int .i64 0) (.int .i64 0) (.string ⟨#[]⟩) (.slice none 0 0) 25).keep (hb1.block _ (by simp))
  have hn := hC1.1.cnt
  have hf1 := hC1.1.fr1
  have hle2 : c + 1 ≤ ts.length := by omega
  have HC2 : Hid (Cl (w1.setCell ⟨Q, 1, none⟩ (.int .i64 ((c : Int) + 1))) Q ts (c + 1)) := hC1.set (c + 1) hle2
  have HG2 : Hid (w.grownBy (w1.setCell ⟨Q, 1, none⟩ (.int .i64 ((c : Int) + 1))) (some Q)) := gtrans hG1 (gset _ _ _ _)
  have HV2 : Hid (Var4 (w1.setCell ⟨Q, 1, none⟩ (.int .i64 ((c : Int) + 1))) w.heap.size (.int .i64 0) (.int .i64 0) (.string ⟨#[]⟩) (.slice none 0 0)) := hV1.keep (Below.heap_setCell _ _ _ _ (by show w.heap.size ≠ Q; omega))
  clear hsign hb1 hC1 hG1 hV1
  go_wp2_with fail
  have hcall := hP (c + 1) (by omega) 1 (deep + 1) _ (by omega) (by omega) (by omega) HC2.out
  rw [show ((deep + 1 : Nat) : Int) = (deep : Int) + 1 by omega] at hcall
  refine hcall.mono ?_
  rintro e w3 ⟨⟨r, hr, a, b, s, ad, n, m, rfl, hrest⟩, hg3⟩
  have HG3 : Hid (w.grownBy w3 (some Q)) := gtrans HG2.out hg3
  have hz3 : w1.heap.size ≤ w3.heap.size := by have := hg3.size; simpa using this
  have HV3 : Hid (Var4 w3 w.heap.size (.int .i64 0) (.int .i64 0) (.string ⟨#[]⟩) (.slice none 0 0)) := HV2.out.by hg3 (by omega) (by simpa using hz1)
  have hz4 : w.heap.size < w3.heap.size := by omega
  have hsz1 : (w1.setCell ⟨Q, 1, none⟩ (.int .i64 ((c : Int) + 1))).heap.size = w1.heap.size := by simp
  rw [hsz1] at hrest
  have hrest2 : ∃ (c' : Nat) (es : List Int), PRd w3 Q w1.heap.size ts c' es ∧ es.length + deep ≤ 7 := by
    cases r with
    | error y => obtain ⟨c', es, h1, h2⟩ := hrest; exact ⟨c', y :: es, h1, by simp; omega⟩
    | ok q => obtain ⟨x, l⟩ := q; obtain ⟨_, _, c', h1, _⟩ := hrest; exact ⟨c', [], h1.to (by omega), by simp; omega⟩
  have HR : Hid (Lv 1 (deep + 1) (ts.drop (c + 1)) r ∧ RRest w3 Q w1.heap.size ts (c + 1) (deep + 1) r a b s ad n m) := ⟨hr, hrest⟩
  clear hcall hr hg3 hn hf1 hsz1 hrest2
  have hve := var4_new w3 (.int .i64 a) (.int .i64 b) (.string s) (.slice ad n m) 25
  cases r with
  | error y =>
    obtain ⟨c', es, hPR, hbd⟩ := hrest
    have HP2 : Hid (Pr deep (ts.drop c) (.error y)) := .inner (by omega) HS.out (by rw [HTL.out]; exact HR.out.1)
    have HPR : Hid (PRd (w3.alloc (.cells #[.int .i64 a, .int .i64 b, .string s, .slice ad n m] 25)) Q w1.heap.size ts c' (y :: es)) := hPR.below ((Below.refl _ _).alloc (Nat.le_refl _) _)
    have hsign := sign_any Q w1.heap.size ts c' (y :: es) _ HPR.out
    clear hPR HR
    by_cases h41 : signOf (ts.drop c') = [41]
    · rw [h41] at hsign
      have hlt' := sign_lt h41 (by decide)
      clear h41
      go_wp2_with fail
      refine hsign.mono ?_
      rintro e w4 ⟨rfl, hb4⟩
      have hPR4 := HPR.out.below hb4
      have hn := hPR4.cnt
      have hf1 := hPR4.fr1
      have hle3 : c' + 1 ≤ ts.length := by omega
      have HPR5 : Hid (PRd (w4.setCell ⟨Q, 1, none⟩ (.int .i64 ((c' : Int) + 1))) Q w1.heap.size ts (c' + 1) (y :: es)) := hPR4.set (c' + 1) hle3
      have hV4 := (HV3.out.alloc hz4 _).keep (hb4.block _ (by simp; omega))
      have hVE4 := hve.keep (hb4.block _ (by simp))
      have HG5 : Hid (w.grownBy (w4.setCell ⟨Q, 1, none⟩ (.int .i64 ((c' : Int) + 1))) (some Q)) := gtrans (gtrans (gtrans HG3.out (galloc _ _ _)) (gbelow _ hb4 (Nat.le_refl _))) (gset _ _ _ _)
      obtain ⟨⟨x0, x1, x2, x3⟩, f0, f1, f2, f3⟩ := hV4
      obtain ⟨⟨y0, y1, y2, y3⟩, _⟩ := hVE4
      have hq1 : ¬ w.heap.size = Q := by omega
      have hq2 : ¬ w3.heap.size = Q := by omega
      have hq3 : ¬ w3.heap.size = w.heap.size := by omega
      clear hsign hb4 hPR4 hve
      go_wp2
      exact bodyPost_ret (v := .agg #[.int .i64 a, .int .i64 b, .string s, .slice ad n m]) (by simp [results, Tryd.results34, go_sem, x0, x1, x2, x3]) rfl
        ⟨⟨_, HP2.out, _, _, _, _, _, _, rfl, c' + 1, es, (HPR5.out.put4 hQw hz1).low_to (by omega) hQw, by omega⟩, gput4 HG5.out (Nat.le_refl _)⟩
    · have e41 : (signOf (ts.drop c') == [41]) = false := by simpa using h41
      generalize signOf (ts.drop c') = sg at hsign e41
      clear h41
      go_wp2_with fail
      refine hsign.mono ?_
      rintro e w4 ⟨rfl, hb4⟩
      have HPR4 : Hid (PRd w4 Q w1.heap.size ts c' (y :: es)) := HPR.out.below hb4
      have HV4 : Hid (Var4 w4 w.heap.size (.int .i64 0) (.int .i64 0) (.string ⟨#[]⟩) (.slice none 0 0)) := (HV3.out.alloc hz4 _).keep (hb4.block _ (by simp; omega))
      have HG4 : Hid (w.grownBy w4 (some Q)) := gtrans (gtrans HG3.out (galloc _ _ _)) (gbelow _ hb4 (Nat.le_refl _))
      have hz5 : w3.heap.size < w4.heap.size := by have := hb4.size; simp at this; omega
      clear hsign hb4 hve
      go_wp2_with fail
      refine (bad_any 2 Q w1.heap.size ts c' (y :: es) w4 HPR4.out (by omega) (by simp; omega)).mono ?_
      rintro e w5 ⟨rfl, hR5, hg5⟩
      obtain ⟨⟨x0, x1, x2, x3⟩, f0, f1, f2, f3⟩ := HV4.out.gq hg5 hz1 (by omega)
      have HG5 : Hid (w.grownBy w5 (some Q)) := gq_grown HG4.out hg5 (by omega)
      have HPR5 : Hid (PRd w5 Q w1.heap.size ts c' (y :: (es ++ [2]))) := hR5
      clear hR5 hg5
      unfold exZ
      go_wp2
      exact bodyPost_ret (v := .agg #[.int .i64 0, .int .i64 0, .string ⟨#[]⟩, .slice none 0 0]) (by simp [results, Tryd.results34, go_sem, x0, x1, x2, x3]) rfl
        ⟨⟨_, HP2.out, _, _, _, _, _, _, rfl, c', es ++ [2], (HPR5.out.put4 hQw hz1).low_to (by omega) hQw, by simp; omega⟩, gput4 HG5.out (Nat.le_refl _)⟩
  | ok q =>
    obtain ⟨x, l⟩ := q
    obtain ⟨⟨rfl, rfl, rfl, rfl⟩, hkr, c', hCl, rfl, hc'⟩ := hrest
    have HL : Hid (Lv 1 (deep + 1) (ts.drop c).tail (.ok (x, ts.drop c'))) := by rw [HTL.out]; exact HR.out.1
    have HCl : Hid (Cl (w3.alloc (.cells #[.int .i64 x.kind, .int .i64 x.n, .string ⟨x.name.toArray⟩, .slice ad x.kids.length m] 25)) Q ts c') := hCl.alloc _
    have HKR : Hid (KR w3 (fun k => w1.heap.size ≤ k) (.slice ad x.kids.length m) x.kids) := hkr
    have hsign := sign_any Q (Q + 1) ts c' [] _ HCl.out.1
    clear hCl HR hkr
    by_cases h41 : signOf (ts.drop c') = [41]
    · rw [h41] at hsign
      have hlt' := sign_lt h41 (by decide)
      have HP2 : Hid (Pr deep (ts.drop c) (.ok (x, ts.drop (c' + 1)))) := by
        have := Pr.brack (by omega) HS.out HL.out h41
        rw [drop_tok hlt'] at this
        exact this
      clear h41
      go_wp2_with fail
      refine hsign.mono ?_
      rintro e w4 ⟨rfl, hb4⟩
      have hCl4 := HCl.out.below hb4
      have hn := hCl4.1.cnt
      have hf1 := hCl4.1.fr1
      have hle3 : c' + 1 ≤ ts.length := by omega
      have HCl5 : Hid (Cl (w4.setCell ⟨Q, 1, none⟩ (.int .i64 ((c' : Int) + 1))) Q ts (c' + 1)) := hCl4.set (c' + 1) hle3
      have HKR5 : Hid (KR (w4.setCell ⟨Q, 1, none⟩ (.int .i64 ((c' : Int) + 1))) (fun k => w1.heap.size ≤ k) (.slice ad x.kids.length m) x.kids) := ((HKR.out.alloc _).under hb4 (Nat.le_refl _)).set (by omega)
      have hV4 := (HV3.out.alloc hz4 _).keep (hb4.block _ (by simp; omega))
      have hVE4 := hve.keep (hb4.block _ (by simp))
      have HG5 : Hid (w.grownBy (w4.setCell ⟨Q, 1, none⟩ (.int .i64 ((c' : Int) + 1))) (some Q)) := gtrans (gtrans (gtrans HG3.out (galloc _ _ _)) (gbelow _ hb4 (Nat.le_refl _))) (gset _ _ _ _)
      obtain ⟨⟨x0, x1, x2, x3⟩, f0, f1, f2, f3⟩ := hV4
      obtain ⟨⟨y0, y1, y2, y3⟩, _⟩ := hVE4
      have hq1 : ¬ w.heap.size = Q := by omega
      have hq2 : ¬ w3.heap.size = Q := by omega
      have hq3 : ¬ w3.heap.size = w.heap.size := by omega
      clear hsign hb4 hCl4 hve
      go_wp2
      exact bodyPost_ret (v := .agg #[.int .i64 x.kind, .int .i64 x.n, .string ⟨x.name.toArray⟩, .slice ad x.kids.length m]) (by simp [results, Tryd.results34, go_sem, x0, x1, x2, x3]) rfl
        ⟨⟨_, HP2.out, _, _, _, _, _, _, rfl, ⟨rfl, rfl, rfl, rfl⟩, (HKR5.out.set4 hz1).wide (by omega), c' + 1, HCl5.out.put4 hQw, rfl, by omega⟩, gput4 HG5.out (Nat.le_refl _)⟩
    · have e41 : (signOf (ts.drop c') == [41]) = false := by simpa using h41
      have HP2 : Hid (Pr deep (ts.drop c) (.error 2)) := .unshut (by omega) HS.out HL.out h41
      generalize signOf (ts.drop c') = sg at hsign e41
      clear h41
      go_wp2_with fail
      refine hsign.mono ?_
      rintro e w4 ⟨rfl, hb4⟩
      have HPR4 : Hid (PRd w4 Q w1.heap.size ts c' []) := (HCl.out.below hb4).to (by omega)
      have HV4 : Hid (Var4 w4 w.heap.size (.int .i64 0) (.int .i64 0) (.string ⟨#[]⟩) (.slice none 0 0)) := (HV3.out.alloc hz4 _).keep (hb4.block _ (by simp; omega))
      have HG4 : Hid (w.grownBy w4 (some Q)) := gtrans (gtrans HG3.out (galloc _ _ _)) (gbelow _ hb4 (Nat.le_refl _))
      have hz5 : w3.heap.size < w4.heap.size := by have := hb4.size; simp at this; omega
      clear hsign hb4 hve
      go_wp2_with fail
      refine (bad_any 2 Q w1.heap.size ts c' [] w4 HPR4.out (by omega) (by simp)).mono ?_
      rintro e w5 ⟨rfl, hR5, hg5⟩
      obtain ⟨⟨x0, x1, x2, x3⟩, f0, f1, f2, f3⟩ := HV4.out.gq hg5 hz1 (by omega)
      have HG5 : Hid (w.grownBy w5 (some Q)) := gq_grown HG4.out hg5 (by omega)
      have HPR5 : Hid (PRd w5 Q w1.heap.size ts c' [2]) := hR5
      clear hR5 hg5
      unfold exZ
      go_wp2
      exact bodyPost_ret (v := .agg #[.int .i64 0, .int .i64 0, .string ⟨#[]⟩, .slice none 0 0]) (by simp [results, Tryd.results34, go_sem, x0, x1, x2, x3]) rfl
        ⟨⟨_, HP2.out, _, _, _, _, _, _, rfl, c', [], (HPR5.out.put4 hQw hz1).low_to (by omega) hQw, by simp; omega⟩, gput4 HG5.out (Nat.le_refl _)⟩

theorem prime_step (Q : Nat) (ts : List Tok) (c : Nat) (h1 : ∀ c', c < c' → PrimeOK Q ts c') (h2 : ∀ c', c < c' → ClimbOK Q ts c') : PrimeOK Q ts c := by
  intro deep w hd hC
  by_cases h6 : (6 : Int) < deep
  · exact prime_deep Q ts c deep w hd hC h6
  by_cases hlt : c < ts.length
  · by_cases e1 : signOf (ts.drop c) = [45]
    · exact prime_sign Q ts c deep w (by omega) hC hlt h1 3 45 e1 (Or.inl ⟨rfl, rfl⟩)
    by_cases e2 : signOf (ts.drop c) = [126]
    · exact prime_sign Q ts c deep w (by omega) hC hlt h1 4 126 e2 (Or.inr ⟨rfl, rfl⟩)
    by_cases e3 : signOf (ts.drop c) = [40]
    · exact prime_open Q ts c deep w (by omega) hC hlt h2 e3
    · exact prime_leaf Q ts c deep w (by omega) hC hlt e1 e2 e3
  · exact prime_end Q ts c deep w (by omega) hC hlt

end Go.Proofs.YtibenegbjpoclabDoor
