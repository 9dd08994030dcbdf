/- The contract of the reader's single. -/
import Derived.Test.YtibenegbjpoclabDoorPaF
namespace Go.Proofs.YtibenegbjpoclabDoor
open Go.RowKit

set_option maxHeartbeats 4000000 in
set_option maxRecDepth 100000 in
theorem single_sign (B : Nat) (V : Value) (ts : List Tok) (c : Nat) (h1 : ∀ c', c < c' → SingleOK B V ts c') (deep : Nat) (w : World) (h6' : deep ≤ 6) (hR : Rdr w B ts c) (hE : Env w B V) (hlt : c < ts.length)
    (hs1 : signOf (ts.drop c) = [45] ∨ signOf (ts.drop c) = [126]) :
    Calls Tryd.prog 32 #[.pointer (some ⟨B, 0, none⟩), .int .i64 deep, V] w fun e w' => (∃ r, Pr deep (ts.drop c) r ∧ PAns w' B w.heap.size ts c r e) ∧ w.grownBy w' (some B) := by
  have hBw := hR.lt
  have h6 : ¬ (6 : Int) < deep := by omega
  obtain ⟨ad, cap, ht, _⟩ := hR.toks
  have hn := hR.cnt
  have hfew := hR.few
  unfold maxLen at hfew
  have e0 : ((c : Int) == (ts.length : Int)) = false := by simp; omega
  have HR : Hid (Rdr w B ts c) := hR
  have HE : Hid (Env w B V) := hE
  clear hR hE
  have hk1 := kindAt_one (ts.drop c)
  have hkk : kindAt 1 0 (ts.drop c) = 3 ∧ signOf (ts.drop c) = [45] ∨ kindAt 1 0 (ts.drop c) = 4 ∧ signOf (ts.drop c) = [126] := by
    rcases hs1 with h | h
    · exact Or.inl ⟨by rw [hk1, if_pos h], h⟩
    · exact Or.inr ⟨by rw [hk1, if_neg (by rw [h]; decide), if_pos h], h⟩
  have hk0 : kindAt 1 0 (ts.drop c) ≠ 0 := by rcases hkk with h | h <;> rw [h.1] <;> decide
  have htk : took (kindAt 1 0 (ts.drop c)) = 1 := by rw [took, if_neg hk0]
  have HTK : ∀ w, Rdr w B ts c → KLaid w → Calls Tryd.prog 44 #[.pointer (some ⟨B, 0, none⟩), .int .i64 1, .int .i64 0] w fun e w' => e = .returned (.int .i64 (kindAt 1 0 (ts.drop c))) ∧ Rdr w' B ts (c + 1) ∧ w.grownBy w' (some B) := by
    intro w hR hL
    have := takeKind_any 1 0 B ts c w hR hL (by decide)
    rw [htk] at this
    exact this
  have HSg : Hid (kindAt 1 0 (ts.drop c) = 3 ∧ signOf (ts.drop c) = [45] ∨ kindAt 1 0 (ts.drop c) = 4 ∧ signOf (ts.drop c) = [126]) := hkk
  have HS1 : Hid (signOf (ts.drop c) = [45] ∨ signOf (ts.drop c) = [126]) := hs1
  have hkn : (kindAt 1 0 (ts.drop c) != 0) = true := by simpa using hk0
  have HTL : Hid ((ts.drop c).tail = ts.drop (c + 1)) := by rw [drop_tok hlt]; rfl
  clear hk1 hkk hk0 htk hs1
  generalize kindAt 1 0 (ts.drop c) = kd at *
  go_enter Tryd.func32, Tryd.ntmps32
  go_wp2
  go_quiet (fail)
  go_wp2_with fail
  refine (HTK _ ((HR.out.alloc _).draws nq) ((HE.out.keep (gtrans (galloc _ _ _) (gdraws _ nq _))).kl)).mono ?_
  rintro e w1 ⟨rfl, hR1, hg1⟩
  have HG1 : Hid (w.grownBy w1 (some B)) := gtrans (gtrans (galloc _ _ _) (gdraws _ nq _)) hg1
  have hz1 : w.heap.size < w1.heap.size := by have := hg1.size; simp at this; omega
  have hv1 := ((var4_new w (.int .i64 0) (.int .i64 0) (.string ⟨#[]⟩) (.slice none 0 0) 25).by (gtrans (gdraws _ nq _) hg1) (by omega) (by simp))
  have hE1 := HE.out.keep HG1.out
  clear hg1 HTK
  go_wp2_with fail
  have hcall := h1 (c + 1) (by omega) (deep + 1) w1 (by omega) hR1 hE1
  have hdp : ((deep + 1 : Nat) : Int) = (deep : Int) + 1 := by omega
  rw [hdp] at hcall
  refine hcall.mono ?_
  clear hcall hdp hR1 h1
  rintro e w2 ⟨⟨r, hr, ha⟩, hg2⟩
  have HG2 : Hid (w.grownBy w2 (some B)) := gtrans HG1.out hg2
  have hv2 := hv1.by hg2 (by omega) hz1
  have hz2 : w.heap.size < w2.heap.size := by have := hg2.size; omega
  have HV1 : Hid (w1.heap.size ≤ w2.heap.size) := hg2.size
  clear hv1 hg2
  cases r with
  | error y =>
    obtain ⟨a, b, s, ad2, n2, m2, c', rfl, hy, hR2⟩ := ha
    have hy1 : (y != 0) = true := by simpa using hy
    have HY : Hid (y ≠ 0) := hy
    have HP : Hid (Pr deep (ts.drop c) (.error y)) := .one (by omega) HS1.out (by rw [HTL.out]; exact hr)
    have HR2 : Hid (Rdr w2 B ts c') := hR2
    obtain ⟨⟨x0, x1, x2, x3⟩, f0, f1, f2, f3⟩ := hv2
    clear hR2 hr hy
    go_wp2
    exact bodyPost_ret (v := .tuple #[.agg #[.int .i64 0, .int .i64 0, .string ⟨#[]⟩, .slice none 0 0], .int .i64 y]) (by simp [results, Tryd.results32, go_sem, x0, x1, x2, x3, World.cell?_alloc_lt, hz2]) rfl
      ⟨⟨_, HP.out, _, _, _, _, _, _, _, rfl, HY.out, (HR2.out.put4 hBw).alloc _⟩, gtrans (gput4 HG2.out (Nat.le_refl _)) (galloc _ _ _)⟩
  | ok p =>
    obtain ⟨k, l⟩ := p
    obtain ⟨kv, c', rfl, hkr, hR2, rfl, hc'⟩ := ha
    have HP : Hid (Pr deep (ts.drop c) (.ok (.mk kd 0 [] [k], ts.drop c'))) := by
      rw [← HTL.out] at hr
      rcases HSg.out with ⟨rfl, hs⟩ | ⟨rfl, hs⟩
      · exact .neg (by omega) hs hr
      · exact .not (by omega) hs hr
    have HR2 : Hid (Rdr w2 B ts c') := hR2
    obtain ⟨ad2, cap2, rfl⟩ := hkr.shape
    have HK : Hid (KR w2 (fun b => w1.heap.size ≤ b) (.slice ad2 k.kids.length cap2) k.kids) := hkr
    obtain ⟨⟨x0, x1, x2, x3⟩, f0, f1, f2, f3⟩ := hv2
    clear hR2 hr hkr
    simp only [exV]
    go_wp2
    refine bodyPost_ret (v := .tuple #[.agg #[.int .i64 kd, .int .i64 0, .string ⟨#[]⟩, .slice (some ⟨w2.heap.size + 1, 0, none⟩) 1 1], .int .i64 0]) (by simp [results, Tryd.results32, go_sem, x0, x1, x2, x3, World.cell?_alloc_lt, hz2, Nat.lt_succ_of_lt hz2]) rfl
      ⟨⟨_, HP.out, _, _, rfl, ?_, ((HR2.out.put4 hBw).alloc _).alloc _, rfl, by omega⟩, gtrans (gtrans (gput4 HG2.out (Nat.le_refl _)) (galloc _ _ _)) (galloc _ _ _)⟩
    refine KR.one (x := k) (by show _ ≤ _; omega) (new_at _ (by simp)) ?_
    exact (((HK.out.set4 hz1).alloc _).alloc _).wide (by omega)

end Go.Proofs.YtibenegbjpoclabDoor
