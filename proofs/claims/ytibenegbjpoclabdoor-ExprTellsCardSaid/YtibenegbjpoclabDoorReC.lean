/- The contract of the document's Prime: one token alone. -/
import Derived.Test.YtibenegbjpoclabDoorReB
namespace Go.Proofs.YtibenegbjpoclabDoor
open Go.RowKit

theorem rsigned_any (n : Int) (w : World) :
    Calls Tryd.prog 14 #[.int .i64 n] w fun e w' => e = .returned (.int .i64 (sgn n)) ∧ w = w' := by
  go_enter Tryd.func14, Tryd.ntmps14
  go_wp2
  go_ret
  refine ⟨ret_int ?_, rfl⟩
  unfold sgn
  unfold wrap32 wrap64
  omega

/-- One token alone that is none. -/
theorem rans_leaf {w' : World} {Q N c0 c deep : Nat} {ts : List Tok} {x : Ex} {kv : Value} (hC : Cl w' Q ts c) (hk : x.kids = []) (hc : c0 < c) (hkv : kv = .slice none 0 0) :
    RAns w' Q N ts c0 deep (.ok (x, ts.drop c)) (.returned (.agg #[.int .i64 x.kind, .int .i64 x.n, .string ⟨x.name.toArray⟩, kv])) := by
  subst hkv
  exact ⟨_, _, _, _, _, _, rfl, ⟨rfl, rfl, rfl, by rw [hk]; rfl⟩, hk ▸ KR.nil _ _, c, hC, rfl, hc⟩

set_option maxHeartbeats 4000000 in
set_option maxRecDepth 100000 in
theorem prime_end (Q : Nat) (ts : List Tok) (c deep : Nat) (w : World) (h6' : deep ≤ 6) (hC : Cl w Q ts c) (hlt : ¬ c < ts.length) :
    Calls Tryd.prog 34 #[.pointer (some ⟨Q, 0, none⟩), .int .i64 deep] w fun e w' => (∃ r, Pr deep (ts.drop c) r ∧ RAns w' Q w.heap.size ts c deep r e) ∧ w.grownBy w' (some Q) := by
  have hQw := hC.1.lt
  have h6 : ¬ (6 : Int) < deep := by omega
  have hnil : ts.drop c = [] := List.drop_eq_nil_of_le (by omega)
  have hsg : signOf (ts.drop c) = [] := by rw [hnil]; rfl
  have HP : Hid (Pr deep (ts.drop c) (.error 9)) := by
    unfold Hid
    rw [hnil]
    exact Pr.leaf (l := []) (by omega) (by decide) (by decide) (by decide)
  have HC : Hid (Cl w Q ts c) := hC
  have hcl : (ts.length : Int) ≤ c := by omega
  clear hC hnil
  go_enter Tryd.func34, Tryd.ntmps34
  go_wp2_with fail
  have hsign := sign_any Q (Q + 1) ts c [] _ (HC.out.alloc (.cells #[.int .i64 0, .int .i64 0, .string ⟨#[]⟩, .slice none 0 0] 25)).1
  rw [hsg] at hsign
  refine hsign.mono ?_
  rintro e w1 ⟨rfl, hb1⟩
  have hC1 := (HC.out.alloc (.cells #[.int .i64 0, .int .i64 0, .string ⟨#[]⟩, .slice none 0 0] 25)).below hb1
  have HC1 : Hid (Cl w1 Q ts c) := hC1
  obtain ⟨ad, cap, ht, _⟩ := hC1.1.toks
  have hn := hC1.1.cnt
  have hv1 := (var4_new w (.int .i64 0) (.int .i64 0) (.string ⟨#[]⟩) (.slice none 0 0) 25).keep (hb1.block _ (by simp))
  have HG1 : Hid (w.grownBy w1 (some Q)) := gtrans (galloc _ _ _) (gbelow _ hb1 (Nat.le_refl _))
  have hz1 : w.heap.size < w1.heap.size := by have := hb1.size; simp at this; omega
  clear hsign hb1 hC1
  go_wp2
  go_quiet (fail)
  go_wp2_with fail
  refine (bad_any 9 Q (w.heap.size + 1) ts c [] (w1.drewN nq) ((HC1.out.below (Go.Joins.below_draws _ _ nq)).to (by omega)) (by simp; omega) (by simp)).mono ?_
  rintro e w2 ⟨rfl, hR, hg⟩
  obtain ⟨⟨x0, x1, x2, x3⟩, f0, f1, f2, f3⟩ := (hv1.keep (w' := w1.drewN nq) ((Go.Joins.below_draws w1.heap.size w1 nq).block _ hz1)).gq hg (Nat.lt_succ_self _) (by omega)
  have HG : Hid (w.grownBy w2 (some Q)) := gq_grown (gtrans HG1.out (gdraws _ nq _)) hg (by omega)
  have HR : Hid (PRd w2 Q (w.heap.size + 1) ts c ([] ++ [9])) := hR
  clear hg hR hv1
  unfold exZ
  go_wp2
  exact bodyPost_ret (v := .agg #[.int .i64 0, .int .i64 0, .string ⟨#[]⟩, .slice none 0 0]) (by simp [results, Tryd.results34, go_sem, x0, x1, x2, x3]) rfl
    ⟨⟨_, HP.out, rans_bad HR.out hQw (by omega) rfl⟩, gput4 HG.out (Nat.le_refl _)⟩

set_option maxHeartbeats 8000000 in
set_option maxRecDepth 100000 in
theorem prime_leaf (Q : Nat) (ts : List Tok) (c deep : Nat) (w : World) (h6' : deep ≤ 6) (hC : Cl w Q ts c) (hlt : c < ts.length)
    (h1 : ¬ signOf (ts.drop c) = [45]) (h2 : ¬ signOf (ts.drop c) = [126]) (h3 : ¬ signOf (ts.drop c) = [40]) :
    Calls Tryd.prog 34 #[.pointer (some ⟨Q, 0, none⟩), .int .i64 deep] w fun e w' => (∃ r, Pr deep (ts.drop c) r ∧ RAns w' Q w.heap.size ts c deep r e) ∧ w.grownBy w' (some Q) := by
  have hQw := hC.1.lt
  have h6 : ¬ (6 : Int) < deep := by omega
  have HP : Hid (Pr deep (ts.drop c) (leafR (ts[c] :: ts.drop (c + 1)))) := by
    have := Pr.leaf (deep := deep) (l := ts.drop c) (by omega) h1 h2 h3
    rw [drop_tok hlt] at this ⊢
    exact this
  have e1 : (signOf (ts.drop c) == [45]) = false := by simpa using h1
  have e2 : (signOf (ts.drop c) == [126]) = false := by simpa using h2
  have e3 : (signOf (ts.drop c) == [40]) = false := by simpa using h3
  have HC : Hid (Cl w Q ts c) := hC
  have hcl : ¬ (ts.length : Int) ≤ c := by omega
  have hcl2 : (c : Int) < ts.length := by omega
  have hfew := hC.1.few
  unfold maxLen at hfew
  have hsign := sign_any Q (Q + 1) ts c [] _ (HC.out.alloc (.cells #[.int .i64 0, .int .i64 0, .string ⟨#[]⟩, .slice none 0 0] 25)).1
  generalize signOf (ts.drop c) = sg at hsign e1 e2 e3
  clear hC h1 h2 h3
  rw [leaf_cons] at HP
  go_enter Tryd.func34, Tryd.ntmps34
  go_wp2_with fail
  refine hsign.mono ?_
  rintro e w1 ⟨rfl, hb1⟩
  have hC1 := (HC.out.alloc (.cells #[.int .i64 0, .int .i64 0, .string ⟨#[]⟩, .slice none 0 0] 25)).below hb1
  have HC1 : Hid (Cl w1 Q ts c) := hC1
  obtain ⟨ad, cap, ht, hts⟩ := hC1.1.toks
  obtain ⟨b, o, rfl, hb, hcs⟩ := hts (by omega)
  obtain ⟨c0, c1, c2⟩ := hcs c hlt
  have hn := hC1.1.cnt
  have hf1 := hC1.1.fr1
  have HV1 : Hid (Var4 w1 w.heap.size (.int .i64 0) (.int .i64 0) (.string ⟨#[]⟩) (.slice none 0 0)) := (var4_new w (.int .i64 0) (.int .i64 0) (.string ⟨#[]⟩) (.slice none 0 0) 25).keep (hb1.block _ (by simp))
  have HG1 : Hid (w.grownBy w1 (some Q)) := gtrans (galloc _ _ _) (gbelow _ hb1 (Nat.le_refl _))
  have hz1 : w.heap.size < w1.heap.size := by have := hb1.size; simp at this; omega
  clear hsign hb1 hC1 hts hcs
  have hne : ¬ b = Q := by omega
  go_wp2
  go_quiet (fail)
  go_wp2
  generalize hwq : w1.drewN nq = wq
  have hbq : Below w1.heap.size w1 wq := hwq ▸ Go.Joins.below_draws _ _ nq
  have HCq : Hid (Cl wq Q ts c) := HC1.out.below hbq
  have HVq : Hid (Var4 wq w.heap.size (.int .i64 0) (.int .i64 0) (.string ⟨#[]⟩) (.slice none 0 0)) := HV1.out.keep (hbq.block _ hz1)
  have HGq : Hid (w.grownBy wq (some Q)) := gtrans HG1.out (gbelow _ hbq (Nat.le_refl _))
  have hzq : w.heap.size < wq.heap.size := Nat.lt_of_lt_of_le hz1 hbq.size
  have hQ1 : Q < wq.heap.size := by omega
  have hb1 : b < wq.heap.size := by omega
  rw [← hbq.cell (show b < w1.heap.size by omega)] at c0 c1 c2
  rw [← hbq.cell (show Q < w1.heap.size by omega)] at ht hn
  rw [← hbq.frozen (show Q < w1.heap.size by omega)] at hf1
  clear hwq hbq HC1 HV1 HG1
  have q0 : ∀ O : Obj, (wq.alloc O).cell? ⟨Q, 0, none⟩ = some (.slice (some ⟨b, o, none⟩) ts.length cap) := fun O => by rw [World.cell?_alloc_lt _ _ _ (by exact hQ1)]; exact ht
  have q1 : ∀ O : Obj, (wq.alloc O).cell? ⟨Q, 1, none⟩ = some (.int .i64 c) := fun O => by rw [World.cell?_alloc_lt _ _ _ (by exact hQ1)]; exact hn
  have q2 : ∀ O : Obj, (wq.alloc O).cell? ⟨b, o + c * 3, none⟩ = some (.int .i64 ts[c].kind) := fun O => by rw [World.cell?_alloc_lt _ _ _ (by exact hb1)]; exact c0
  have q3 : ∀ O : Obj, (wq.alloc O).cell? ⟨b, o + c * 3 + 1, none⟩ = some (.int .i64 ts[c].n) := fun O => by rw [World.cell?_alloc_lt _ _ _ (by exact hb1)]; exact c1
  have q4 : ∀ O : Obj, (wq.alloc O).cell? ⟨b, o + c * 3 + 2, none⟩ = some (.string ⟨ts[c].text.toArray⟩) := fun O => by rw [World.cell?_alloc_lt _ _ _ (by exact hb1)]; exact c2
  have q5 : ∀ O : Obj, (wq.alloc O).frozen? ⟨Q, 1, none⟩ = false := fun O => by rw [((Below.refl wq.heap.size wq).alloc (Nat.le_refl _) O).frozen (by exact hQ1)]; exact hf1
  go_region
  have hle2 : c + 1 ≤ ts.length := by omega
  obtain ⟨w3, hw3⟩ : ∃ w3, w3 = ((wq.setCell ⟨Q, 1, none⟩ (.int .i64 ((c : Int) + 1))).alloc (.cells #[.int .i64 ts[c].kind, .int .i64 ts[c].n, .string ⟨ts[c].text.toArray⟩] 63)).drew := ⟨_, rfl⟩
  have HC3 : Hid (Cl w3 Q ts (c + 1)) := hw3 ▸ (((HCq.out.set (c + 1) hle2).alloc _).below (Go.Joins.below_draws _ _ 1))
  have HV3 : Hid (Var4 w3 w.heap.size (.int .i64 0) (.int .i64 0) (.string ⟨#[]⟩) (.slice none 0 0)) := hw3 ▸ (((HVq.out.keep (Below.heap_setCell _ _ _ _ (by show w.heap.size ≠ Q; omega))).alloc (by simpa using hzq) _).keep (w' := World.drew _) rfl)
  have HG3 : Hid (w.grownBy w3 (some Q)) := hw3 ▸ gtrans (gtrans HGq.out (gset _ _ _ _)) (gtrans (galloc _ _ _) (gdraws _ 1 _))
  have hz3 : w.heap.size < w3.heap.size := by rw [hw3]; simp; omega
  have k0 : w3.cell? ⟨wq.heap.size, 0, none⟩ = some (.int .i64 ts[c].kind) := by rw [hw3]; exact cell_at (by simp) rfl
  have k1 : w3.cell? ⟨wq.heap.size, 1, none⟩ = some (.int .i64 ts[c].n) := by rw [hw3]; exact cell_at (by simp) rfl
  have k2 : w3.cell? ⟨wq.heap.size, 2, none⟩ = some (.string ⟨ts[c].text.toArray⟩) := by rw [hw3]; exact cell_at (by simp) rfl
  clear q0 q1 q2 q3 q4 q5 HCq HVq HGq
  go_wp2_with fail
  · have hk2 : ts[c].kind = 2 := by simpa using (by assumption : (ts[c].kind == 2) = true)
    have HP2 : Hid (Pr deep (ts.drop c) (.ok (.mk 1 (sgn ts[c].n) [] [], ts.drop (c + 1)))) := by
      have hh := HP.out
      rw [show leafE ts[c] = .ok (.mk 1 (sgn ts[c].n) [] []) by simp [leafE, hk2]] at hh
      exact hh
    rw [← hw3]
    refine (rsigned_any _ w3).mono ?_
    rintro e w4 ⟨rfl, rfl⟩
    obtain ⟨⟨x0, x1, x2, x3⟩, f0, f1, f2, f3⟩ := HV3.out
    clear k0 k1 k2 hw3
    go_wp2
    exact bodyPost_ret (v := .agg #[.int .i64 1, .int .i64 (sgn ts[c].n), .string ⟨#[]⟩, .slice none 0 0]) (by simp [results, Tryd.results34, go_sem, x0, x1, x2, x3]) rfl
      ⟨⟨_, HP2.out, rans_leaf (x := .mk 1 (sgn ts[c].n) [] []) (HC3.out.put4 hQw) rfl (Nat.lt_succ_self _) rfl⟩, gput4 HG3.out (Nat.le_refl _)⟩
  · have hk2 : ¬ ts[c].kind = 2 := by simpa using (by assumption : (ts[c].kind == 2) = false)
    have hk1 : ¬ ts[c].kind = 1 := by simpa using (by assumption : (ts[c].kind != 1) = true)
    have HP2 : Hid (Pr deep (ts.drop c) (.error 2)) := by
      have hh := HP.out
      rw [show leafE ts[c] = .error 2 by simp [leafE, hk1, hk2]] at hh
      exact hh
    rw [← hw3]
    refine (bad_any 2 Q (w.heap.size + 1) ts (c + 1) [] w3 (HC3.out.to (by omega)) (by omega) (by simp)).mono ?_
    rintro e w4 ⟨rfl, hR, hg⟩
    obtain ⟨⟨x0, x1, x2, x3⟩, f0, f1, f2, f3⟩ := HV3.out.gq hg (Nat.lt_succ_self _) (by omega)
    have HG : Hid (w.grownBy w4 (some Q)) := gq_grown HG3.out hg (by omega)
    have HR : Hid (PRd w4 Q (w.heap.size + 1) ts (c + 1) ([] ++ [2])) := hR
    clear hg hR k0 k1 k2 hw3
    unfold exZ
    go_wp2
    exact bodyPost_ret (v := .agg #[.int .i64 0, .int .i64 0, .string ⟨#[]⟩, .slice none 0 0]) (by simp [results, Tryd.results34, go_sem, x0, x1, x2, x3]) rfl
      ⟨⟨_, HP2.out, rans_bad HR.out hQw (by omega) rfl⟩, gput4 HG.out (Nat.le_refl _)⟩
  · have hk1 : ts[c].kind = 1 := by simpa using (by assumption : (ts[c].kind != 1) = false)
    rw [← hw3]
    clear hw3
    refine (rname_any ⟨ts[c].text.toArray⟩ w3).mono ?_
    rintro e w4 ⟨rfl, rfl⟩
    cases hnm : nameR ts[c].text
    · have HP2 : Hid (Pr deep (ts.drop c) (.error 7)) := by
        have hh := HP.out
        rw [show leafE ts[c] = .error 7 by simp [leafE, hk1, hnm]] at hh
        exact hh
      go_wp2_with fail
      refine (bad_any 7 Q (w.heap.size + 1) ts (c + 1) [] w3 (HC3.out.to (by omega)) (by omega) (by simp)).mono ?_
      rintro e w4 ⟨rfl, hR, hg⟩
      obtain ⟨⟨x0, x1, x2, x3⟩, f0, f1, f2, f3⟩ := HV3.out.gq hg (Nat.lt_succ_self _) (by omega)
      have HG : Hid (w.grownBy w4 (some Q)) := gq_grown HG3.out hg (by omega)
      have HR : Hid (PRd w4 Q (w.heap.size + 1) ts (c + 1) ([] ++ [7])) := hR
      clear hg hR k0 k1 k2
      unfold exZ
      go_wp2
      exact bodyPost_ret (v := .agg #[.int .i64 0, .int .i64 0, .string ⟨#[]⟩, .slice none 0 0]) (by simp [results, Tryd.results34, go_sem, x0, x1, x2, x3]) rfl
        ⟨⟨_, HP2.out, rans_bad HR.out hQw (by omega) rfl⟩, gput4 HG.out (Nat.le_refl _)⟩
    · have HP2 : Hid (Pr deep (ts.drop c) (.ok (.mk 2 0 ts[c].text [], ts.drop (c + 1)))) := by
        have hh := HP.out
        rw [show leafE ts[c] = .ok (.mk 2 0 ts[c].text []) by simp [leafE, hk1, hnm]] at hh
        exact hh
      obtain ⟨⟨x0, x1, x2, x3⟩, f0, f1, f2, f3⟩ := HV3.out
      have hne3 : ¬ wq.heap.size = w.heap.size := by omega
      go_wp2
      exact bodyPost_ret (v := .agg #[.int .i64 2, .int .i64 0, .string ⟨ts[c].text.toArray⟩, .slice none 0 0]) (by simp [results, Tryd.results34, go_sem, x0, x1, x2, x3]) rfl
        ⟨⟨_, HP2.out, rans_leaf (x := .mk 2 0 ts[c].text []) (HC3.out.put4 hQw) rfl (Nat.lt_succ_self _) rfl⟩, gput4 HG3.out (Nat.le_refl _)⟩

end Go.Proofs.YtibenegbjpoclabDoor
