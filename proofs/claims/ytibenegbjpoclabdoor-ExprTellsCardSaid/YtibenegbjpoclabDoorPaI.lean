/- The contract of the reader's single: one token alone; the whole. -/
import Derived.Test.YtibenegbjpoclabDoorPaH
namespace Go.Proofs.YtibenegbjpoclabDoor
open Go.RowKit

set_option maxHeartbeats 4000000 in
set_option maxRecDepth 100000 in
theorem single_leaf (B : Nat) (V : Value) (ts : List Tok) (c : Nat) (deep : Nat) (w : World) (h6' : deep ≤ 6) (hR : Rdr w B ts c) (hE : Env w B V) (hlt : c < ts.length)
    (h1 : ¬ signOf (ts.drop c) = [45]) (h2 : ¬ signOf (ts.drop c) = [126]) (h3 : ¬ signOf (ts.drop c) = [40]) :
    Calls Tryd.prog 32 #[.pointer (some ⟨B, 0, none⟩), .int .i64 deep, V] w fun e w' => (∃ r, Pr deep (ts.drop c) r ∧ PAns w' B w.heap.size ts c r e) ∧ w.grownBy w' (some B) := by
  have hBw := hR.lt
  have h6 : ¬ (6 : Int) < deep := by omega
  obtain ⟨ad, cap, ht, hts⟩ := hR.toks
  have hn := hR.cnt
  have hfew := hR.few
  unfold maxLen at hfew
  have e0 : ((c : Int) == (ts.length : Int)) = false := by simp; omega
  have HR : Hid (Rdr w B ts c) := hR
  have HE : Hid (Env w B V) := hE
  clear hR hE
  have HTK := take_none (ts := ts) (c := c) h1 h2 B
  have HSI : Hid (signIs (ts.drop c) [40] = false) := by unfold Hid; rw [sign_is (by decide)]; simpa using h3
  have HP : Hid (Pr deep (ts.drop c) (leafR (ts[c] :: ts.drop (c + 1)))) := by
    have := Pr.leaf (deep := deep) (l := ts.drop c) (by omega) h1 h2 h3
    rw [drop_tok hlt] at this ⊢
    exact this
  clear h1 h2 h3
  clear hts
  go_enter Tryd.func32, Tryd.ntmps32
  go_wp2
  go_quiet (fail)
  go_wp2_with fail
  refine (HTK _ ((HR.out.alloc _).draws nq) ((HE.out.keep (gtrans (galloc _ _ _) (gdraws _ nq _))).kl)).mono ?_
  rintro e w1 ⟨rfl, hR1, hg1⟩
  have HG1 : Hid (w.grownBy w1 (some B)) := gtrans (gtrans (galloc _ _ _) (gdraws _ nq _)) hg1
  have hz1 : w.heap.size < w1.heap.size := by have := hg1.size; simp at this; omega
  have hv1 := ((var4_new w (.int .i64 0) (.int .i64 0) (.string ⟨#[]⟩) (.slice none 0 0) 25).by (gtrans (gdraws _ nq _) hg1) (by omega) (by simp))
  clear hg1 HTK
  go_wp2_with fail
  refine (takeSign_no ⟨#[40]⟩ B ts c w1 hR1 HSI.out).mono ?_
  rintro e w2 ⟨rfl, hR2, hg2⟩
  have HG2 : Hid (w.grownBy w2 (some B)) := gtrans HG1.out hg2
  have hv2 := hv1.by hg2 (by omega) hz1
  have hz2 : w.heap.size < w2.heap.size := by have := hg2.size; omega
  obtain ⟨ad2, cap2, ht2, hts2⟩ := hR2.toks
  obtain ⟨b, o, rfl, hb, hcs⟩ := hts2 (by omega)
  obtain ⟨c0, c1, c2⟩ := hcs c hlt
  clear hts2 hcs
  have hn2 := hR2.cnt
  have hf2 := hR2.fr
  have HR2 : Hid (Rdr w2 B ts c) := hR2
  clear hv1 hg2 hR1 hz1 ht hn hR2
  have hc1 : (c : Int) < ts.length := by omega
  have hne : ¬ b = B := by omega
  have hBw2 : B < w2.heap.size := by omega
  have hbw2 : b < w2.heap.size := by omega
  have q0 : ∀ O : Obj, (w2.alloc O).cell? ⟨B, 0, none⟩ = some (.slice (some ⟨b, o, none⟩) ts.length cap2) := fun O => by rw [World.cell?_alloc_lt _ _ _ (by exact hBw2)]; exact ht2
  have q1 : ∀ O : Obj, (w2.alloc O).cell? ⟨B, 1, none⟩ = some (.int .i64 c) := fun O => by rw [World.cell?_alloc_lt _ _ _ (by exact hBw2)]; exact hn2
  have q2 : ∀ O : Obj, (w2.alloc O).cell? ⟨b, o + c * 3, none⟩ = some (.int .i64 ts[c].kind) := fun O => by rw [World.cell?_alloc_lt _ _ _ (by exact hbw2)]; exact c0
  have q3 : ∀ O : Obj, (w2.alloc O).cell? ⟨b, o + c * 3 + 1, none⟩ = some (.int .i64 ts[c].n) := fun O => by rw [World.cell?_alloc_lt _ _ _ (by exact hbw2)]; exact c1
  have q4 : ∀ O : Obj, (w2.alloc O).cell? ⟨b, o + c * 3 + 2, none⟩ = some (.string ⟨ts[c].text.toArray⟩) := fun O => by rw [World.cell?_alloc_lt _ _ _ (by exact hbw2)]; exact c2
  have q5 : ∀ O : Obj, (w2.alloc O).frozen? ⟨B, 1, none⟩ = false := fun O => by rw [((Below.refl w2.heap.size w2).alloc (Nat.le_refl _) O).frozen (by exact hBw2)]; exact hf2
  go_wp2
  go_region
  go_wp2_with fail
  have hRl : Rdr ((w2.setCell ⟨B, 1, none⟩ (.int .i64 ((c : Int) + 1))).alloc (.cells #[.int .i64 ts[c].kind, .int .i64 ts[c].n, .string ⟨ts[c].text.toArray⟩] 63)).drew B ts (c + 1) := ((HR2.out.set (c + 1) (by omega)).alloc _).draws 1
  have hGl : w.grownBy ((w2.setCell ⟨B, 1, none⟩ (.int .i64 ((c : Int) + 1))).alloc (.cells #[.int .i64 ts[c].kind, .int .i64 ts[c].n, .string ⟨ts[c].text.toArray⟩] 63)).drew (some B) := gtrans (gtrans HG2.out (gset _ _ _ _)) (gtrans (galloc _ _ _) (gdraws _ 1 _))
  have hVl := hv2.by (gtrans (gset w2 B 1 (.int .i64 ((c : Int) + 1))) (gtrans (galloc _ (.cells #[.int .i64 ts[c].kind, .int .i64 ts[c].n, .string ⟨ts[c].text.toArray⟩] 63) _) (gdraws _ 1 _))) (by omega) hz2
  refine (leaf_any ts[c] _).mono ?_
  rintro e w3 ⟨rfl, hb3⟩
  have HR3 : Hid (Rdr w3 B ts (c + 1)) := hRl.below hb3 hRl.lt
  have HG3 : Hid (w.grownBy w3 (some B)) := gtrans hGl (gbelow _ hb3 (Nat.le_refl _))
  obtain ⟨⟨x0, x1, x2, x3⟩, f0, f1, f2, f3⟩ := hVl.by (gbelow (some B) hb3 (Nat.le_refl _)) (by omega) (by simp [World.drewN]; omega)
  have hz3 : w.heap.size < w3.heap.size := by have := hb3.size; simp at this; omega
  clear hRl hGl hVl hb3 HR2 HG2 q0 q1 q2 q3 q4 q5 c0 c1 c2 hv2
  rw [leaf_cons] at HP
  cases hl : leafE ts[c] with
  | error y =>
    have hy : y ≠ 0 := by
      unfold leafE at hl
      repeat' split at hl
      all_goals first | (injection hl with hl; omega) | cases hl
    rw [hl] at HP
    simp only [leafV, exZ]
    go_wp2
    exact bodyPost_ret (v := .tuple #[.agg #[.int .i64 0, .int .i64 0, .string ⟨#[]⟩, .slice none 0 0], .int .i64 y]) (by simp [results, Tryd.results32, go_sem, x0, x1, x2, x3]) rfl
      ⟨⟨_, HP.out, _, _, _, _, _, _, _, rfl, hy, HR3.out.put4 hBw⟩, gput4 HG3.out (Nat.le_refl _)⟩
  | ok k =>
    have hk : k.kids = [] := by
      unfold leafE at hl
      repeat' split at hl
      all_goals first | (injection hl with hl; rw [← hl]; rfl) | cases hl
    rw [hl] at HP
    simp only [leafV, exV]
    go_wp2
    exact bodyPost_ret (v := .tuple #[.agg #[.int .i64 k.kind, .int .i64 k.n, .string ⟨k.name.toArray⟩, .slice none 0 0], .int .i64 0]) (by simp [results, Tryd.results32, go_sem, x0, x1, x2, x3]) rfl
      ⟨⟨_, HP.out, _, _, rfl, hk ▸ KR.nil _ _, HR3.out.put4 hBw, rfl, by omega⟩, gput4 HG3.out (Nat.le_refl _)⟩

set_option maxHeartbeats 1000000 in
theorem single_step (B : Nat) (V : Value) (ts : List Tok) (c : Nat) (h1 : ∀ c', c < c' → SingleOK B V ts c') (h2 : ∀ c', c < c' → LevelOK B V ts 5 c') : SingleOK B V ts c := by
  intro deep w hd hR hE
  have hBw := hR.lt
  by_cases h6 : (6 : Int) < deep
  · have HP : Hid (Pr deep (ts.drop c) (.error 10)) := Pr.deep (by omega)
    go_enter Tryd.func32, Tryd.ntmps32
    go_wp2
    exact bodyPost_ret (v := .tuple #[.agg #[.int .i64 0, .int .i64 0, .string ⟨#[]⟩, .slice none 0 0], .int .i64 10]) (by simp [results, Tryd.results32, go_sem]) rfl ⟨⟨_, HP.out, _, _, _, _, _, _, c, rfl, by decide, hR.alloc _⟩, galloc _ _ _⟩
  by_cases hlt : c < ts.length
  · by_cases hs : signOf (ts.drop c) = [45] ∨ signOf (ts.drop c) = [126]
    · exact single_sign B V ts c h1 deep w (by omega) hR hE hlt hs
    · by_cases ho : signOf (ts.drop c) = [40]
      · exact single_open B V ts c h2 deep w (by omega) hR hE hlt ho
      · exact single_leaf B V ts c deep w (by omega) hR hE hlt (fun h => hs (Or.inl h)) (fun h => hs (Or.inr h)) ho
  · obtain ⟨ad, cap, ht, _⟩ := hR.toks
    have hn := hR.cnt
    have e0 : ((c : Int) == (ts.length : Int)) = true := by have := hR.le; simp; omega
    have HP : Hid (Pr deep (ts.drop c) (.error 9)) := by
      unfold Hid
      rw [List.drop_eq_nil_of_le (by omega)]
      exact Pr.leaf (l := []) (by omega) (by decide) (by decide) (by decide)
    have HR : Hid (Rdr w B ts c) := hR
    clear hR hE h1 h2
    go_enter Tryd.func32, Tryd.ntmps32
    go_wp2
    go_quiet (fail)
    go_wp2
    exact bodyPost_ret (v := .tuple #[.agg #[.int .i64 0, .int .i64 0, .string ⟨#[]⟩, .slice none 0 0], .int .i64 9]) (by simp [results, Tryd.results32, go_sem]) rfl ⟨⟨_, HP.out, _, _, _, _, _, _, c, rfl, by decide, ((HR.out.alloc _).draws nq).put4 hBw⟩, gput4 (gtrans (galloc _ _ _) (gdraws _ nq _)) (Nat.le_refl _)⟩

end Go.Proofs.YtibenegbjpoclabDoor
