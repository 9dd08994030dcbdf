/- The contract of the reader's single: brackets, and one token alone. -/
import Derived.Test.YtibenegbjpoclabDoorPaG
namespace Go.Proofs.YtibenegbjpoclabDoor
open Go.RowKit

theorem take_none {ts : List Tok} {c : Nat} (h1 : ¬ signOf (ts.drop c) = [45]) (h2 : ¬ signOf (ts.drop c) = [126]) (B : Nat) (w : World) (hR : Rdr w B ts c) (hL : KLaid w) :
    Calls Tryd.prog 44 #[.pointer (some ⟨B, 0, none⟩), .int .i64 1, .int .i64 0] w fun e w' => e = .returned (.int .i64 0) ∧ Rdr w' B ts c ∧ w.grownBy w' (some B) := by
  have := takeKind_any 1 0 B ts c w hR hL (by decide)
  rw [kindAt_one, if_neg h1, if_neg h2] at this
  exact this

set_option maxHeartbeats 4000000 in
set_option maxRecDepth 100000 in
theorem single_open (B : Nat) (V : Value) (ts : List Tok) (c : Nat) (h2 : ∀ c', c < c' → LevelOK B V ts 5 c') (deep : Nat) (w : World) (h6' : deep ≤ 6) (hR : Rdr w B ts c) (hE : Env w B V) (hlt : c < ts.length)
    (hs : signOf (ts.drop c) = [40]) :
    Calls Tryd.prog 32 #[.pointer (some ⟨B, 0, none⟩), .int .i64 deep, V] w fun e w' => (∃ r, Pr deep (ts.drop c) r ∧ PAns w' B w.heap.size ts c r e) ∧ w.grownBy w' (some B) := by
  have hBw := hR.lt
  have h6 : ¬ (6 : Int) < deep := by omega
  obtain ⟨ad, cap, ht, _⟩ := hR.toks
  have hn := hR.cnt
  have hfew := hR.few
  unfold maxLen at hfew
  have e0 : ((c : Int) == (ts.length : Int)) = false := by simp; omega
  have HR : Hid (Rdr w B ts c) := hR
  have HE : Hid (Env w B V) := hE
  clear hR hE
  have HTK := take_none (ts := ts) (c := c) (by rw [hs]; decide) (by rw [hs]; decide) B
  have HSI : Hid (signIs (ts.drop c) [40] = true) := by unfold Hid; rw [sign_is (by decide), hs]; rfl
  have HS : Hid (signOf (ts.drop c) = [40]) := hs
  have HTL : Hid ((ts.drop c).tail = ts.drop (c + 1)) := by rw [drop_tok hlt]; rfl
  obtain ⟨p5, r5, s5, hV⟩ := pv_five HE.out.all
  subst hV
  clear hs
  go_enter Tryd.func32, Tryd.ntmps32
  go_wp2
  go_quiet (fail)
  go_wp2_with fail
  refine (HTK _ ((HR.out.alloc _).draws nq) ((HE.out.keep (gtrans (galloc _ _ _) (gdraws _ nq _))).kl)).mono ?_
  rintro e w1 ⟨rfl, hR1, hg1⟩
  have HG1 : Hid (w.grownBy w1 (some B)) := gtrans (gtrans (galloc _ _ _) (gdraws _ nq _)) hg1
  have hz1 : w.heap.size < w1.heap.size := by have := hg1.size; simp at this; omega
  have hv1 := ((var4_new w (.int .i64 0) (.int .i64 0) (.string ⟨#[]⟩) (.slice none 0 0) 25).by (gtrans (gdraws _ nq _) hg1) (by omega) (by simp))
  clear hg1 HTK
  go_wp2_with fail
  refine (takeSign_yes ⟨#[40]⟩ B ts c w1 hR1 HSI.out).mono ?_
  rintro e w2 ⟨rfl, hR2, hg2⟩
  have HG2 : Hid (w.grownBy w2 (some B)) := gtrans HG1.out hg2
  have hv2 := hv1.by hg2 (by omega) hz1
  have hz2 : w.heap.size < w2.heap.size := by have := hg2.size; omega
  have hE2 := HE.out.keep HG2.out
  clear hv1 hg2 hR1 hz1
  go_wp2_with fail
  have hcall := h2 (c + 1) (by omega) (deep + 1) w2 _ _ _ (by omega) hR2 hE2 hE2.all rfl
  have hdp : ((deep + 1 : Nat) : Int) = (deep : Int) + 1 := by omega
  rw [hdp] at hcall
  refine Calls.mono (show Calls Tryd.prog 47 #[.int .i64 ((deep : Int) + 1), .pointer (some ⟨p5, 0, none⟩), .pointer (some ⟨r5, 0, none⟩), .pointer (some ⟨s5, 0, none⟩)] w2 _ from hcall) ?_
  clear hcall hdp hR2 h2 hE2
  rintro e w3 ⟨⟨r, hr, ha⟩, hg3⟩
  have HG3 : Hid (w.grownBy w3 (some B)) := gtrans HG2.out hg3
  have hv3 := hv2.by hg3 (by omega) hz2
  have hz3 : w.heap.size < w3.heap.size := by have := hg3.size; omega
  clear hv2 hg3
  cases r with
  | error y =>
    obtain ⟨a, b, s, ad2, n2, m2, c', rfl, hy, hR3⟩ := ha
    have hy1 : (y == 0) = false := by simpa using hy
    have HY : Hid (y ≠ 0) := hy
    have HP : Hid (Pr deep (ts.drop c) (.error y)) := .inner (by omega) HS.out (by rw [HTL.out]; exact hr)
    have HR3 : Hid (Rdr w3 B ts c') := hR3
    obtain ⟨⟨x0, x1, x2, x3⟩, f0, f1, f2, f3⟩ := hv3
    clear hR3 hr hy
    go_wp2
    exact bodyPost_ret (v := .tuple #[.agg #[.int .i64 a, .int .i64 b, .string s, .slice ad2 n2 m2], .int .i64 y]) (by simp [results, Tryd.results32, go_sem, x0, x1, x2, x3, World.cell?_alloc_lt, hz3]) rfl
      ⟨⟨_, HP.out, _, _, _, _, _, _, _, rfl, HY.out, (HR3.out.put4 hBw).alloc _⟩, gtrans (gput4 HG3.out (Nat.le_refl _)) (galloc _ _ _)⟩
  | ok p =>
    obtain ⟨k, l⟩ := p
    obtain ⟨kv, c', rfl, hkr, hR3, rfl, hc'⟩ := ha
    obtain ⟨ad2, cap2, rfl⟩ := hkr.shape
    have HK : Hid (KR w3 (fun b => w2.heap.size ≤ b) (.slice ad2 k.kids.length cap2) k.kids) := hkr
    have HL : Hid (Lv 1 (deep + 1) (ts.drop c).tail (.ok (k, ts.drop c'))) := by rw [HTL.out]; exact hr
    have hle := hR3.le
    simp only [exV]
    clear hr hkr
    go_wp2_with fail
    have hva := (hv3.by (galloc w3 (.cells #[.int .i64 k.kind, .int .i64 k.n, .string ⟨k.name.toArray⟩, .slice ad2 k.kids.length cap2] 25) (some B)) (by omega) hz3)
    have hve := var4_new w3 (.int .i64 k.kind) (.int .i64 k.n) (.string ⟨k.name.toArray⟩) (.slice ad2 k.kids.length cap2) 25
    have hBw3 := hR3.lt
    cases hsg : signIs (ts.drop c') [41]
    · refine (takeSign_no ⟨#[41]⟩ B ts c' _ (hR3.alloc _) hsg).mono ?_
      rintro e w4 ⟨rfl, hR4, hg4⟩
      have hz4 : w3.heap.size < w4.heap.size := by have := hg4.size; simp at this; omega
      have hz5 : w.heap.size < w4.heap.size := by omega
      have HP : Hid (Pr deep (ts.drop c) (.error 2)) := .unshut (by omega) HS.out HL.out (by rw [sign_is (by decide)] at hsg; simpa using hsg)
      have HG4 : Hid (w.grownBy w4 (some B)) := gtrans (gtrans HG3.out (galloc _ _ _)) hg4
      have HR4 : Hid (Rdr w4 B ts c') := hR4
      obtain ⟨⟨x0, x1, x2, x3⟩, f0, f1, f2, f3⟩ := hva.by hg4 (by omega) (by simp; omega)
      obtain ⟨⟨y0, y1, y2, y3⟩, _⟩ := hve.by hg4 (by omega) (by simp)
      have hne : ¬ w3.heap.size = w.heap.size := by omega
      clear hg4 hR4 hR3 hva hve hv3 hsg
      go_wp2
      exact bodyPost_ret (v := .tuple #[.agg #[.int .i64 k.kind, .int .i64 k.n, .string ⟨k.name.toArray⟩, .slice ad2 k.kids.length cap2], .int .i64 2]) (by simp [results, Tryd.results32, go_sem, x0, x1, x2, x3]) rfl
        ⟨⟨_, HP.out, _, _, _, _, _, _, _, rfl, by decide, HR4.out.put4 hBw⟩, gput4 HG4.out (Nat.le_refl _)⟩
    · refine (takeSign_yes ⟨#[41]⟩ B ts c' _ (hR3.alloc _) hsg).mono ?_
      rintro e w4 ⟨rfl, hR4, hg4⟩
      have hz4 : w3.heap.size < w4.heap.size := by have := hg4.size; simp at this; omega
      have hz5 : w.heap.size < w4.heap.size := by omega
      have hlt' : c' < ts.length := by
        by_cases h : c' < ts.length
        · exact h
        · rw [List.drop_eq_nil_of_le (by omega)] at hsg; cases hsg
      have HP : Hid (Pr deep (ts.drop c) (.ok (k, ts.drop (c' + 1)))) := by
        have := Pr.brack (by omega) HS.out HL.out (by rw [sign_is (by decide)] at hsg; simpa using hsg)
        rw [drop_tok hlt'] at this
        exact this
      have HG4 : Hid (w.grownBy w4 (some B)) := gtrans (gtrans HG3.out (galloc _ _ _)) hg4
      have HR4 : Hid (Rdr w4 B ts (c' + 1)) := hR4
      have HK4 : Hid (KR w4 (fun b => w2.heap.size ≤ b) (.slice ad2 k.kids.length cap2) k.kids) := (HK.out.alloc _).by hg4 (by omega)
      obtain ⟨⟨x0, x1, x2, x3⟩, f0, f1, f2, f3⟩ := hva.by hg4 (by omega) (by simp; omega)
      obtain ⟨⟨y0, y1, y2, y3⟩, _⟩ := hve.by hg4 (by omega) (by simp)
      have hne : ¬ w3.heap.size = w.heap.size := by omega
      clear hg4 hR4 hR3 hva hve hv3 hsg HK
      go_wp2
      exact bodyPost_ret (v := .tuple #[.agg #[.int .i64 k.kind, .int .i64 k.n, .string ⟨k.name.toArray⟩, .slice ad2 k.kids.length cap2], .int .i64 0]) (by simp [results, Tryd.results32, go_sem, x0, x1, x2, x3]) rfl
        ⟨⟨_, HP.out, _, _, rfl, (HK4.out.set4 hz2).wide (by omega), HR4.out.put4 hBw, rfl, by omega⟩, gput4 HG4.out (Nat.le_refl _)⟩

end Go.Proofs.YtibenegbjpoclabDoor
