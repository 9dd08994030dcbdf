/- The contract of the document's Prime: a sign before one, brackets; the whole. -/
import Derived.Test.YtibenegbjpoclabDoorReC
namespace Go.Proofs.YtibenegbjpoclabDoor
open Go.RowKit

theorem rans_sign {w3 : World} {Q R N1 : Nat} {ts : List Tok} {c deep : Nat} {kd : Int} {sb : UInt8} {r : Except Int (Ex × List Tok)} {a b : Int} {s : ByteArray} {ad : Option Addr} {n m : Nat}
    (h : Pr (deep + 1) (ts.drop (c + 1)) r ∧ RRest w3 Q N1 ts (c + 1) (deep + 1) r a b s ad n m) (hs : signOf (ts.drop c) = [sb]) (hk : kd = 3 ∧ sb = 45 ∨ kd = 4 ∧ sb = 126) (ht : (ts.drop c).tail = ts.drop (c + 1)) (h6 : deep ≤ 6) (hQ : Q < R) (hN : R < N1) (hz : R < w3.heap.size) :
    ∃ r', Pr deep (ts.drop c) r' ∧ RAns ((((((w3.setCell ⟨R, 0, none⟩ (.int .i64 kd)).setCell ⟨R, 1, none⟩ (.int .i64 0)).setCell ⟨R, 2, none⟩ (.string ⟨#[]⟩)).setCell ⟨R, 3, none⟩ (.slice (some ⟨w3.heap.size + 1, 0, none⟩) 1 1)).alloc (.cells #[.int .i64 a, .int .i64 b, .string s, .slice ad n m] 25)).alloc (.cells #[.int .i64 a, .int .i64 b, .string s, .slice ad n m] 25)) Q R ts c deep r' (.returned (.agg #[.int .i64 kd, .int .i64 0, .string ⟨#[]⟩, .slice (some ⟨w3.heap.size + 1, 0, none⟩) 1 1])) := by
  obtain ⟨hr, hrest⟩ := h
  cases r with
  | error y =>
    obtain ⟨c', es, hP, hb⟩ := hrest
    refine ⟨.error y, .one (by omega) (by rcases hk with h | h <;> rw [hs, h.2]; exact Or.inl rfl; exact Or.inr rfl) (by rw [ht]; exact hr), _, _, _, _, _, _, rfl, c', es, ?_, by omega⟩
    exact (((hP.put4 hQ hN).below ((Below.refl _ _).alloc (Nat.le_refl _) _)).below ((Below.refl _ _).alloc (Nat.le_refl _) _)).low_to (by omega) hQ
  | ok q =>
    obtain ⟨x, l⟩ := q
    obtain ⟨⟨rfl, rfl, rfl, rfl⟩, hkr, c', hC, rfl, hc⟩ := hrest
    refine ⟨.ok (.mk kd 0 [] [x], ts.drop c'), ?_, _, _, _, _, _, _, rfl, ⟨rfl, rfl, rfl, rfl⟩, ?_, c', ((hC.put4 hQ).alloc _).alloc _, rfl, by omega⟩
    · rw [← ht] at hr
      rcases hk with ⟨rfl, rfl⟩ | ⟨rfl, rfl⟩
      · exact .neg (by omega) hs hr
      · exact .not (by omega) hs hr
    · refine KR.one (x := x) (by show _ ≤ _; omega) (new_at _ (by simp)) ?_
      exact (((hkr.set4 hN).alloc _).alloc _).wide (by omega)

set_option maxHeartbeats 8000000 in
set_option maxRecDepth 100000 in
theorem prime_sign (Q : Nat) (ts : List Tok) (c deep : Nat) (w : World) (h6' : deep ≤ 6) (hC : Cl w Q ts c) (hlt : c < ts.length) (hP : ∀ c', c < c' → PrimeOK Q ts c') (kd : Int) (sb : UInt8)
    (hs : signOf (ts.drop c) = [sb]) (hk : kd = 3 ∧ sb = 45 ∨ kd = 4 ∧ sb = 126) :
    Calls Tryd.prog 34 #[.pointer (some ⟨Q, 0, none⟩), .int .i64 deep] w fun e w' => (∃ r, Pr deep (ts.drop c) r ∧ RAns w' Q w.heap.size ts c deep r e) ∧ w.grownBy w' (some Q) := by
  have hQw := hC.1.lt
  have h6 : ¬ (6 : Int) < deep := by omega
  have HTL : Hid ((ts.drop c).tail = ts.drop (c + 1)) := by rw [drop_tok hlt]; rfl
  have HS : Hid (signOf (ts.drop c) = [sb]) := hs
  have HC : Hid (Cl w Q ts c) := hC
  have hfew := hC.1.few
  unfold maxLen at hfew
  have hsign := sign_any Q (Q + 1) ts c [] _ (HC.out.alloc (.cells #[.int .i64 0, .int .i64 0, .string ⟨#[]⟩, .slice none 0 0] 25)).1
  rw [hs] at hsign
  have HK : Hid (kd = 3 ∧ sb = 45 ∨ kd = 4 ∧ sb = 126) := hk
  clear hC hs
  have main : ∀ w1, Below (w.heap.size + 1) (w.alloc (.cells #[.int .i64 0, .int .i64 0, .string ⟨#[]⟩, .slice none 0 0] 25)) w1 → Cl w1 Q ts c ∧ w.grownBy w1 (some Q) ∧ w.heap.size < w1.heap.size ∧ Var4 w1 w.heap.size (.int .i64 0) (.int .i64 0) (.string ⟨#[]⟩) (.slice none 0 0) := fun w1 hb => by
    have hb' : Below (w.alloc (.cells #[.int .i64 0, .int .i64 0, .string ⟨#[]⟩, .slice none 0 0] 25)).heap.size (w.alloc (.cells #[.int .i64 0, .int .i64 0, .string ⟨#[]⟩, .slice none 0 0] 25)) w1 := by simpa using hb
    exact ⟨(HC.out.alloc _).below hb', gtrans (galloc _ _ _) (gbelow _ hb' (Nat.le_refl _)), by have := hb'.size; simp at this; omega, (var4_new w _ _ _ _ _).keep (hb.block _ (Nat.lt_succ_self _))⟩
  have HMAIN : Hid (∀ w1, Below (w.heap.size + 1) (w.alloc (.cells #[.int .i64 0, .int .i64 0, .string ⟨#[]⟩, .slice none 0 0] 25)) w1 → Cl w1 Q ts c ∧ w.grownBy w1 (some Q) ∧ w.heap.size < w1.heap.size ∧ Var4 w1 w.heap.size (.int .i64 0) (.int .i64 0) (.string ⟨#[]⟩) (.slice none 0 0)) := main
  clear main
  rcases hk with ⟨rfl, rfl⟩ | ⟨rfl, rfl⟩
  all_goals
    go_enter Tryd.func34, Tryd.ntmps34
    go_wp2_with fail
    refine hsign.mono ?_
    rintro e w1 ⟨rfl, hb1⟩
    obtain ⟨hC1, hG1, hz1, hV1⟩ := HMAIN.out w1 (by simpa using hb1)
    have hn := hC1.1.cnt
    have hf1 := hC1.1.fr1
    have hle2 : c + 1 ≤ ts.length := by omega
    have HC2 : Hid (Cl (w1.setCell ⟨Q, 1, none⟩ (.int .i64 ((c : Int) + 1))) Q ts (c + 1)) := hC1.set (c + 1) hle2
    have HG2 : Hid (w.grownBy (w1.setCell ⟨Q, 1, none⟩ (.int .i64 ((c : Int) + 1))) (some Q)) := gtrans hG1 (gset _ _ _ _)
    have HV2 : Hid (Var4 (w1.setCell ⟨Q, 1, none⟩ (.int .i64 ((c : Int) + 1))) w.heap.size (.int .i64 0) (.int .i64 0) (.string ⟨#[]⟩) (.slice none 0 0)) := hV1.keep (Below.heap_setCell _ _ _ _ (by show w.heap.size ≠ Q; omega))
    clear hsign hb1 hC1 hG1 hV1
    go_wp2_with fail
    have hcall := hP (c + 1) (by omega) (deep + 1) _ (by omega) HC2.out
    rw [show ((deep + 1 : Nat) : Int) = (deep : Int) + 1 by omega] at hcall
    refine hcall.mono ?_
    rintro e w3 ⟨⟨r, hr, a, b, s, ad, n, m, rfl, hrest⟩, hg3⟩
    have HG3 : Hid (w.grownBy w3 (some Q)) := gtrans HG2.out hg3
    have hz3 : w1.heap.size ≤ w3.heap.size := by have := hg3.size; simpa using this
    obtain ⟨⟨x0, x1, x2, x3⟩, f0, f1, f2, f3⟩ := HV2.out.by hg3 (by omega) (by simpa using hz1)
    have hz4 : w.heap.size < w3.heap.size := by omega
    have HR : Hid (Pr (deep + 1) (ts.drop (c + 1)) r ∧ RRest w3 Q (w1.setCell ⟨Q, 1, none⟩ (.int .i64 ((c : Int) + 1))).heap.size ts (c + 1) (deep + 1) r a b s ad n m) := ⟨hr, hrest⟩
    clear hcall hr hrest hg3 hn hf1
    go_wp2
    refine bodyPost_ret (v := .agg #[.int .i64 _, .int .i64 0, .string ⟨#[]⟩, .slice (some ⟨w3.heap.size + 1, 0, none⟩) 1 1]) (by simp [results, Tryd.results34, go_sem, x0, x1, x2, x3, World.cell?_alloc_lt, hz4, Nat.lt_succ_of_lt hz4]) rfl
      ⟨rans_sign HR.out HS.out (by simp) HTL.out h6' hQw (by simpa using hz1) hz4, gtrans (gtrans (gput4 HG3.out (Nat.le_refl _)) (galloc _ _ _)) (galloc _ _ _)⟩

end Go.Proofs.YtibenegbjpoclabDoor
