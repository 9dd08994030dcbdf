/- The contract of the document's Climb. -/
import Derived.Test.YtibenegbjpoclabDoorReE
namespace Go.Proofs.YtibenegbjpoclabDoor
open Go.RowKit

theorem PRd.errCell {w : World} {Q N : Nat} {ts : List Tok} {c : Nat} {es : List Int} (h : PRd w Q N ts c es) : ∃ ad cap, w.cell? ⟨Q, 2, none⟩ = some (.slice ad es.length cap) := by
  obtain ⟨ev, h1, h2⟩ := h.errs
  obtain ⟨ad, cap, rfl⟩ := owns_shape h2
  exact ⟨ad, cap, h1⟩
theorem PRd.cntOf {w : World} {Q N : Nat} {ts : List Tok} {c : Nat} {es : List Int} (h : PRd w Q N ts c es) : cntOf w Q = c := by
  unfold Go.Proofs.YtibenegbjpoclabDoor.cntOf
  rw [h.cnt]
  simp

/-- What the loop of Climb keeps: R the answer's variable, E the expression's. -/
def Cb (w : World) (Q R E least deep : Nat) (ts : List Tok) (c : Nat) (wr : World) : Prop :=
  w.grownBy wr (some Q) ∧ E < wr.heap.size ∧ Var4 wr R (.int .i64 0) (.int .i64 0) (.string ⟨#[]⟩) (.slice none 0 0) ∧
  ((∃ x ad cap c', Var4 wr E (.int .i64 x.kind) (.int .i64 x.n) (.string ⟨x.name.toArray⟩) (.slice ad x.kids.length cap) ∧ KR wr (fun b => R < b ∧ b ≠ E) (.slice ad x.kids.length cap) x.kids ∧
      Cl wr Q ts c' ∧ c < c' ∧ (∀ r, Mo least deep x (ts.drop c') r → Lv least deep (ts.drop c) r)) ∨
   (∃ (y : Int) (es : List Int) (c' : Nat) (a b : Int) (s : ByteArray) (ad : Option Addr) (n m : Nat), Var4 wr E (.int .i64 a) (.int .i64 b) (.string s) (.slice ad n m) ∧ PRd wr Q (R + 1) ts c' (y :: es) ∧ es.length + 1 + deep ≤ 8 ∧ Lv least deep (ts.drop c) (.error y)))

def cbM (ts : List Tok) (Q : Nat) (wr : World) : Nat := match wr.cell? ⟨Q, 2, none⟩ with
  | some (.slice _ 0 _) => ts.length - cntOf wr Q + 1
  | _ => 0
theorem cbM_ok {w : World} {Q : Nat} {ts : List Tok} {c : Nat} (h : Cl w Q ts c) : cbM ts Q w = ts.length - c + 1 := by
  unfold cbM
  rw [h.2, h.1.cntOf]
  rfl
theorem cbM_bad {w : World} {Q N : Nat} {ts : List Tok} {c : Nat} {y : Int} {es : List Int} (h : PRd w Q N ts c (y :: es)) : cbM ts Q w = 0 := by
  obtain ⟨ad, cap, hc⟩ := h.errCell
  unfold cbM
  rw [hc]
  rfl

theorem cb_start {w w1 : World} {Q least deep : Nat} {ts : List Tok} {c : Nat} {r : Except Int (Ex × List Tok)} {a b : Int} {s : ByteArray} {ad : Option Addr} {n m : Nat} (hr : Pr deep (ts.drop c) r)
    (h : RRest w1 Q (w.heap.size + 1) ts c deep r a b s ad n m) (hG : w.grownBy w1 (some Q)) (hz : w.heap.size < w1.heap.size) (hV : Var4 w1 w.heap.size (.int .i64 0) (.int .i64 0) (.string ⟨#[]⟩) (.slice none 0 0)) :
    Cb w Q w.heap.size w1.heap.size least deep ts c (w1.alloc (.cells #[.int .i64 a, .int .i64 b, .string s, .slice ad n m] 25)) := by
  refine ⟨gtrans hG (galloc _ _ _), by simp, hV.alloc hz _, ?_⟩
  cases r with
  | error y =>
    obtain ⟨c', es, h1, h2⟩ := h
    exact Or.inr ⟨y, es, c', a, b, s, ad, n, m, var4_new _ _ _ _ _ _, h1.below ((Below.refl _ _).alloc (Nat.le_refl _) _), h2, .bad hr⟩
  | ok q =>
    obtain ⟨x, l⟩ := q
    obtain ⟨⟨rfl, rfl, rfl, rfl⟩, hkr, c', hC, rfl, hc⟩ := h
    exact Or.inl ⟨x, ad, m, c', var4_new _ _ _ _ _ _, (hkr.weak fun k hk hl => ⟨hk, by omega⟩).alloc _, hC.alloc _, hc, fun r hm => .of hr hm⟩

/-- Take number i first: what it yields lies in slot d. -/
theorem take_at {P : Program} {md : Region.Mode} {ops : Array Oper} {Q : Exit → Act → World → Prop} {S : World → Prop} (i d : Nat) {oi : Oper} {v : Value} {fuel : Nat} {listed : Array Bool} {T : Array Value} {D : List Deferred} {w : World} (hi : ops[i]? = some oi) (hd : oi.dst = some d)
    (hs : Region.noSelect ops = true) (hf : Region.free md ops listed i = true) (hr : (Region.ready md ops listed).contains i = true)
    (hQ : ∀ c a w, Q (.panic c) (a.put oi.dst v) w → Q (.panic c) a w) (hw : Region.wanted oi (yielded ops T) = true) (hy : ∀ w, S w → (execOp (Act.eval ⟨T, D⟩) oi).run P w = .ok (.value v) w) (hS : S w)
    (h : wpAnyH P md ops Q S fuel (listed.setIfInBounds i true) ⟨T.setIfInBounds d v, D⟩ w) : wpAnyH P md ops Q S (fuel + 1) listed ⟨T, D⟩ w := by
  refine wpAnyH_take hi hs hf hr hQ (Or.inl ⟨hw, hy⟩) hS ?_
  rw [hd]
  exact h

set_option maxHeartbeats 8000000 in
set_option maxRecDepth 100000 in
theorem climb_step (Q : Nat) (ts : List Tok) (c : Nat) (h0 : PrimeOK Q ts c) (h1 : ∀ c', c < c' → ClimbOK Q ts c') : ClimbOK Q ts c := by
  intro least deep w hd hl1 hl6 hC
  have hQw := hC.1.lt
  have hfew := hC.1.few
  unfold maxLen at hfew
  go_enter Tryd.func16, Tryd.ntmps16
  go_wp2_with fail
  refine (h0 deep _ hd (hC.alloc _)).mono ?_
  rintro e w1 ⟨⟨r, hr, a, b, s, ad, n, m, rfl, hrest⟩, hg1⟩
  have hz1 : w.heap.size < w1.heap.size := by have := hg1.size; simp at this; omega
  have HCB : Hid (Cb w Q w.heap.size w1.heap.size least deep ts c (w1.alloc (.cells #[.int .i64 a, .int .i64 b, .string s, .slice ad n m] 25))) :=
    cb_start hr (by simpa using hrest) (gtrans (galloc _ _ _) hg1) hz1 ((var4_new w _ _ _ _ _).by hg1 (by omega) (by simp))
  clear hr hrest hg1 h0 hC
  go_wp2
  go_loopw [8] (fun _ wr => Hid (Cb w Q w.heap.size w1.heap.size least deep ts c wr)) (fun _ wr => cbM ts Q wr)
  case atStart => exact HCB
  case round =>
    clear HCB
    obtain ⟨hG, hEz, hV, hcase⟩ := hrel.out
    have HG : Hid (w.grownBy wr (some Q)) := hG
    clear hrel hG
    rcases hcase with ⟨x, ad2, cap2, c', hVE, hkr, hC, hc', hmo⟩ | ⟨y, es, c', a2, b2, s2, ad2, n2, m2, hVE, hPR, hbd, hlv⟩
    · have he2 := hC.2
      have HC : Hid (Cl wr Q ts c') := hC
      have HMO : Hid (∀ r, Mo least deep x (ts.drop c') r → Lv least deep (ts.drop c) r) := hmo
      have HKR : Hid (KR wr (fun b => w.heap.size < b ∧ b ≠ w1.heap.size) (.slice ad2 x.kids.length cap2) x.kids) := hkr
      have HVE : Hid (Var4 wr w1.heap.size (.int .i64 x.kind) (.int .i64 x.n) (.string ⟨x.name.toArray⟩) (.slice ad2 x.kids.length cap2)) := hVE
      have HV : Hid (Var4 wr w.heap.size (.int .i64 0) (.int .i64 0) (.string ⟨#[]⟩) (.slice none 0 0)) := hV
      have HM : Hid (cbM ts Q wr = ts.length - c' + 1) := cbM_ok hC
      have hsign := sign_any Q (Q + 1) ts c' [] wr hC.1
      clear hmo hkr hVE hV hC
      go_wp2_with fail
      refine hsign.mono ?_
      rintro e w2 ⟨rfl, hb2⟩
      have HC2 : Hid (Cl w2 Q ts c') := HC.out.below hb2
      have hVE2 := HVE.out.keep (hb2.block _ hEz)
      have hV2 := HV.out.keep (hb2.block _ (by omega))
      have HKR2 : Hid (KR w2 (fun b => w.heap.size < b ∧ b ≠ w1.heap.size) (.slice ad2 x.kids.length cap2) x.kids) := HKR.out.under hb2 (Nat.le_refl _)
      have HG2 : Hid (w.grownBy w2 (some Q)) := gtrans HG.out (gbelow _ hb2 (Nat.le_refl _))
      have hz2 := hb2.size
      clear hsign hb2 HVE HV HKR HC he2
      go_wp2_with fail
      refine (strength_any _ w2).mono ?_
      rintro e w2' ⟨rfl, rfl⟩
      by_cases hst : (strengthR (signOf (ts.drop c'))).1 < least
      · have hst2 : ((strengthR (signOf (ts.drop c'))).1 : Int) < least := by omega
        have HLV : Hid (Lv least deep (ts.drop c) (.ok (x, ts.drop c'))) := HMO.out _ (.stop hst)
        obtain ⟨⟨x0, x1, x2, x3⟩, f0, f1, f2, f3⟩ := hV2
        obtain ⟨⟨y0, y1, y2, y3⟩, _⟩ := hVE2
        have hne : ¬ w1.heap.size = w.heap.size := by omega
        clear hst
        go_wp2
        exact bodyPost_ret (v := .agg #[.int .i64 x.kind, .int .i64 x.n, .string ⟨x.name.toArray⟩, .slice ad2 x.kids.length cap2]) (by simp [results, Tryd.results16, go_sem, x0, x1, x2, x3]) rfl
          ⟨⟨_, HLV.out, _, _, _, _, _, _, rfl, ⟨rfl, rfl, rfl, rfl⟩, (HKR2.out.set4p (fun b hb => by omega)).weak (fun b hb _ => Nat.le_of_lt hb.1), c', HC2.out.put4 hQw, rfl, hc'⟩, gput4 HG2.out (Nat.le_refl _)⟩
      · have hst2 : ¬ ((strengthR (signOf (ts.drop c'))).1 : Int) < least := by omega
        have hlt' : c' < ts.length := by
          by_cases h : c' < ts.length
          · exact h
          · rw [List.drop_eq_nil_of_le (by omega)] at hst
            exact absurd (show (strengthR (signOf [])).1 < least by show 0 < least; omega) hst
        have HTL : Hid ((ts.drop c').tail = ts.drop (c' + 1)) := by rw [drop_tok hlt']; rfl
        have HST : Hid (¬ (strengthR (signOf (ts.drop c'))).1 < least) := hst
        have hs5 := strength_le (signOf (ts.drop c'))
        obtain ⟨st, hstd⟩ : ∃ st, st = (strengthR (signOf (ts.drop c'))).1 := ⟨_, rfl⟩
        obtain ⟨kd, hkdd⟩ : ∃ kd, kd = (strengthR (signOf (ts.drop c'))).2 := ⟨_, rfl⟩
        rw [← hstd] at hst2 hs5 ⊢
        rw [← hkdd]
        have HSTD : Hid (st = (strengthR (signOf (ts.drop c'))).1) := hstd
        have HKDD : Hid (kd = (strengthR (signOf (ts.drop c'))).2) := hkdd
        clear hst hstd hkdd
        have hn := HC2.out.1.cnt
        have hf1 := HC2.out.1.fr1
        have hle2 : c' + 1 ≤ ts.length := by omega
        obtain ⟨w4, hw4⟩ : ∃ w4, w4 = w2.setCell ⟨Q, 1, none⟩ (.int .i64 ((c' : Int) + 1)) := ⟨_, rfl⟩
        have HC4 : Hid (Cl w4 Q ts (c' + 1)) := hw4 ▸ HC2.out.set (c' + 1) hle2
        have HG4 : Hid (w.grownBy w4 (some Q)) := hw4 ▸ gtrans HG2.out (gset _ _ _ _)
        have hkeep : ∀ k, k ≠ Q → w4.heap[k]? = w2.heap[k]? := fun k hk => by rw [hw4]; exact Below.heap_setCell _ _ _ _ hk
        have HVE4 : Hid (Var4 w4 w1.heap.size (.int .i64 x.kind) (.int .i64 x.n) (.string ⟨x.name.toArray⟩) (.slice ad2 x.kids.length cap2)) := hVE2.keep (hkeep _ (by omega))
        have HV4 : Hid (Var4 w4 w.heap.size (.int .i64 0) (.int .i64 0) (.string ⟨#[]⟩) (.slice none 0 0)) := hV2.keep (hkeep _ (by omega))
        have hz4 : w4.heap.size = w2.heap.size := by rw [hw4]; simp
        have HKR4 : Hid (KR w4 (fun b => w.heap.size < b ∧ b ≠ w1.heap.size) (.slice ad2 x.kids.length cap2) x.kids) := HKR2.out.keep fun k hk hl => ⟨hk, by omega, fun o => World.cell?_of_block (w := w2) (hkeep k (by omega))⟩
        clear hkeep hVE2 hV2 HKR2 HG2
        go_wp2_with fail
        rw [← hw4]
        clear hw4 hn hf1
        obtain ⟨⟨y0, y1, y2, y3⟩, g0, g1, g2, g3⟩ := HVE4.out
        have hcall := h1 (c' + 1) (by omega) (st + 1) deep w4.drew hd (by omega) (by omega) (HC4.out.below (Go.Joins.below_draws _ _ 1))
        rw [show ((st + 1 : Nat) : Int) = (st : Int) + 1 by omega] at hcall
        have hEQ : w1.heap.size ≠ Q := by omega
        have hEl : w1.heap.size < w4.heap.size := by omega
        have hzf : ∀ w6, w4.drew.grownBy w6 (some Q) → Var4 w6 w1.heap.size (.int .i64 x.kind) (.int .i64 x.n) (.string ⟨x.name.toArray⟩) (.slice ad2 x.kids.length cap2) := fun w6 hg => Var4.by (w := w4.drew) HVE4.out hg hEQ hEl
        clear HC4
        have hfin : ∀ w6 r6 a6 b6 s6 ad6 n6 m6, Lv (st + 1) deep (ts.drop (c' + 1)) r6 → RRest w6 Q w4.drew.heap.size ts (c' + 1) deep r6 a6 b6 s6 ad6 n6 m6 → w4.drew.grownBy w6 (some Q) →
            Hid (Cb w Q w.heap.size w1.heap.size least deep ts c (((((w6.setCell ⟨w1.heap.size, 0, none⟩ (.int .i64 kd)).setCell ⟨w1.heap.size, 1, none⟩ (.int .i64 0)).setCell ⟨w1.heap.size, 2, none⟩ (.string ⟨#[]⟩)).setCell ⟨w1.heap.size, 3, none⟩ (.slice (some ⟨w6.heap.size, 0, none⟩) 2 2)).alloc (.cells #[.int .i64 x.kind, .int .i64 x.n, .string ⟨x.name.toArray⟩, .slice ad2 x.kids.length cap2, .int .i64 a6, .int .i64 b6, .string s6, .slice ad6 n6 m6] 25))) ∧ cbM ts Q (((((w6.setCell ⟨w1.heap.size, 0, none⟩ (.int .i64 kd)).setCell ⟨w1.heap.size, 1, none⟩ (.int .i64 0)).setCell ⟨w1.heap.size, 2, none⟩ (.string ⟨#[]⟩)).setCell ⟨w1.heap.size, 3, none⟩ (.slice (some ⟨w6.heap.size, 0, none⟩) 2 2)).alloc (.cells #[.int .i64 x.kind, .int .i64 x.n, .string ⟨x.name.toArray⟩, .slice ad2 x.kids.length cap2, .int .i64 a6, .int .i64 b6, .string s6, .slice ad6 n6 m6] 25)) < cbM ts Q wr := fun w6 r6 a6 b6 s6 ad6 n6 m6 hr6 hrest6 hg6 => by
          have hdz : w4.drew.heap.size = w4.heap.size := rfl
          rw [hdz] at hrest6
          have hz6 : w4.heap.size ≤ w6.heap.size := hg6.size
          have hE6 : w1.heap.size < w6.heap.size := by omega
          have hG6 : w.grownBy w6 (some Q) := gtrans (gtrans HG4.out (gdraws _ 1 _)) hg6
          have hV6 : Var4 w6 w.heap.size (.int .i64 0) (.int .i64 0) (.string ⟨#[]⟩) (.slice none 0 0) := Var4.by (w := w4.drew) HV4.out hg6 (by omega) (by show w.heap.size < w4.heap.size; omega)
          have hVE6 := hzf w6 hg6
          have hK6 : KR w6 (fun b => w.heap.size < b ∧ b ≠ w1.heap.size) (.slice ad2 x.kids.length cap2) x.kids := KR.byp (w := w4.drew) (HKR4.out.under (Go.Joins.below_draws _ _ 1) (Nat.le_refl _)) hg6 (fun b hb => by omega)
          have hgf : w.grownBy (((((w6.setCell ⟨w1.heap.size, 0, none⟩ (.int .i64 kd)).setCell ⟨w1.heap.size, 1, none⟩ (.int .i64 0)).setCell ⟨w1.heap.size, 2, none⟩ (.string ⟨#[]⟩)).setCell ⟨w1.heap.size, 3, none⟩ (.slice (some ⟨w6.heap.size, 0, none⟩) 2 2)).alloc (.cells #[.int .i64 x.kind, .int .i64 x.n, .string ⟨x.name.toArray⟩, .slice ad2 x.kids.length cap2, .int .i64 a6, .int .i64 b6, .string s6, .slice ad6 n6 m6] 25)) (some Q) := gtrans (gput4 hG6 (by omega)) (galloc _ _ _)
          have hEf : w1.heap.size < (((((w6.setCell ⟨w1.heap.size, 0, none⟩ (.int .i64 kd)).setCell ⟨w1.heap.size, 1, none⟩ (.int .i64 0)).setCell ⟨w1.heap.size, 2, none⟩ (.string ⟨#[]⟩)).setCell ⟨w1.heap.size, 3, none⟩ (.slice (some ⟨w6.heap.size, 0, none⟩) 2 2)).alloc (.cells #[.int .i64 x.kind, .int .i64 x.n, .string ⟨x.name.toArray⟩, .slice ad2 x.kids.length cap2, .int .i64 a6, .int .i64 b6, .string s6, .slice ad6 n6 m6] 25)).heap.size := by simp; omega
          have hVf : Var4 (((((w6.setCell ⟨w1.heap.size, 0, none⟩ (.int .i64 kd)).setCell ⟨w1.heap.size, 1, none⟩ (.int .i64 0)).setCell ⟨w1.heap.size, 2, none⟩ (.string ⟨#[]⟩)).setCell ⟨w1.heap.size, 3, none⟩ (.slice (some ⟨w6.heap.size, 0, none⟩) 2 2)).alloc (.cells #[.int .i64 x.kind, .int .i64 x.n, .string ⟨x.name.toArray⟩, .slice ad2 x.kids.length cap2, .int .i64 a6, .int .i64 b6, .string s6, .slice ad6 n6 m6] 25)) w.heap.size (.int .i64 0) (.int .i64 0) (.string ⟨#[]⟩) (.slice none 0 0) := (hV6.other (by omega)).alloc (by simp; omega) _
          have hVEf : Var4 (((((w6.setCell ⟨w1.heap.size, 0, none⟩ (.int .i64 kd)).setCell ⟨w1.heap.size, 1, none⟩ (.int .i64 0)).setCell ⟨w1.heap.size, 2, none⟩ (.string ⟨#[]⟩)).setCell ⟨w1.heap.size, 3, none⟩ (.slice (some ⟨w6.heap.size, 0, none⟩) 2 2)).alloc (.cells #[.int .i64 x.kind, .int .i64 x.n, .string ⟨x.name.toArray⟩, .slice ad2 x.kids.length cap2, .int .i64 a6, .int .i64 b6, .string s6, .slice ad6 n6 m6] 25)) w1.heap.size (.int .i64 kd) (.int .i64 0) (.string ⟨#[]⟩) (.slice (some ⟨w6.heap.size, 0, none⟩) 2 2) := hVE6.put4.alloc (by simp; omega) _
          cases r6 with
          | error y6 =>
            obtain ⟨c6, es6, hP6, hb6⟩ := hrest6
            have hPf : PRd (((((w6.setCell ⟨w1.heap.size, 0, none⟩ (.int .i64 kd)).setCell ⟨w1.heap.size, 1, none⟩ (.int .i64 0)).setCell ⟨w1.heap.size, 2, none⟩ (.string ⟨#[]⟩)).setCell ⟨w1.heap.size, 3, none⟩ (.slice (some ⟨w6.heap.size, 0, none⟩) 2 2)).alloc (.cells #[.int .i64 x.kind, .int .i64 x.n, .string ⟨x.name.toArray⟩, .slice ad2 x.kids.length cap2, .int .i64 a6, .int .i64 b6, .string s6, .slice ad6 n6 m6] 25)) Q w4.heap.size ts c6 (y6 :: es6) := (hP6.put4 (by omega) hEl).below ((Below.refl _ _).alloc (Nat.le_refl _) _)
            refine ⟨⟨hgf, hEf, hVf, Or.inr ⟨y6, es6, c6, _, _, _, _, _, _, hVEf, hPf.low_to (by omega) (by omega), hb6, HMO.out _ (.bad HST.out ?_)⟩⟩, ?_⟩
            · rw [HTL.out, ← HSTD.out]; exact hr6
            · rw [cbM_bad hPf, HM.out]; omega
          | ok q6 =>
            obtain ⟨x6, l6⟩ := q6
            obtain ⟨hEq, hk6, c6, hC6, rfl, hc6⟩ := hrest6
            have hCf : Cl (((((w6.setCell ⟨w1.heap.size, 0, none⟩ (.int .i64 kd)).setCell ⟨w1.heap.size, 1, none⟩ (.int .i64 0)).setCell ⟨w1.heap.size, 2, none⟩ (.string ⟨#[]⟩)).setCell ⟨w1.heap.size, 3, none⟩ (.slice (some ⟨w6.heap.size, 0, none⟩) 2 2)).alloc (.cells #[.int .i64 x.kind, .int .i64 x.n, .string ⟨x.name.toArray⟩, .slice ad2 x.kids.length cap2, .int .i64 a6, .int .i64 b6, .string s6, .slice ad6 n6 m6] 25)) Q ts c6 := (hC6.put4 (by omega)).alloc _
            obtain ⟨rfl, rfl, rfl, rfl⟩ := hEq
            have hk6' : KR w6 (fun b => w.heap.size < b ∧ b ≠ w1.heap.size) (.slice ad6 x6.kids.length m6) x6.kids := hk6.weak fun b hb _ => by omega
            refine ⟨⟨hgf, hEf, hVf, Or.inl ⟨.mk kd 0 [] [x, x6], some ⟨w6.heap.size, 0, none⟩, 2, c6, hVEf, ?_, hCf, by omega, fun r hm => HMO.out _ (.step (k := x6) (l' := ts.drop c6) HST.out ?_ (by rw [← HKDD.out]; exact hm))⟩⟩, ?_⟩
            · refine KR.two (x := x) (y := x6) (by show _ < _ ∧ _ ≠ _; omega) (new_at _ (by simp)) ?_ ?_
              · exact (hK6.set4p (fun b hb => hb.2)).alloc _
              · exact (hk6'.set4p (fun b hb => hb.2)).alloc _
            · rw [HTL.out, ← HSTD.out]; exact hr6
            · rw [cbM_ok hCf, HM.out]
              have := hC6.1.le
              omega
        have HFIN : Hid (∀ w6 r6 a6 b6 s6 ad6 n6 m6, Lv (st + 1) deep (ts.drop (c' + 1)) r6 → RRest w6 Q w4.drew.heap.size ts (c' + 1) deep r6 a6 b6 s6 ad6 n6 m6 → w4.drew.grownBy w6 (some Q) →
            Hid (Cb w Q w.heap.size w1.heap.size least deep ts c (((((w6.setCell ⟨w1.heap.size, 0, none⟩ (.int .i64 kd)).setCell ⟨w1.heap.size, 1, none⟩ (.int .i64 0)).setCell ⟨w1.heap.size, 2, none⟩ (.string ⟨#[]⟩)).setCell ⟨w1.heap.size, 3, none⟩ (.slice (some ⟨w6.heap.size, 0, none⟩) 2 2)).alloc (.cells #[.int .i64 x.kind, .int .i64 x.n, .string ⟨x.name.toArray⟩, .slice ad2 x.kids.length cap2, .int .i64 a6, .int .i64 b6, .string s6, .slice ad6 n6 m6] 25))) ∧ cbM ts Q (((((w6.setCell ⟨w1.heap.size, 0, none⟩ (.int .i64 kd)).setCell ⟨w1.heap.size, 1, none⟩ (.int .i64 0)).setCell ⟨w1.heap.size, 2, none⟩ (.string ⟨#[]⟩)).setCell ⟨w1.heap.size, 3, none⟩ (.slice (some ⟨w6.heap.size, 0, none⟩) 2 2)).alloc (.cells #[.int .i64 x.kind, .int .i64 x.n, .string ⟨x.name.toArray⟩, .slice ad2 x.kids.length cap2, .int .i64 a6, .int .i64 b6, .string s6, .slice ad6 n6 m6] 25)) < cbM ts Q wr) := hfin
        clear hfin
        have hwr : IntKind.i64.wrap ((st : Int) + 1) = (st : Int) + 1 := by rw [IntKind.wrap_i64]; omega
        refine wp_region_noPanic ?_
        refine wp_region_held_drew (S := fun _ => True) (by kernel_rfl) trivial (fun _ => ?_)
        refine take_at 0 35 (v := ?_) rfl rfl (by kernel_rfl) (by kernel_rfl) (by kernel_rfl) (fun _ _ _ h => h) rfl ?_ trivial ?_
        rotate_left
        · intro w hSw
          go_simp
          try with_reducible rfl
        simp only [List.setIfInBounds_toArray, List.set_cons_zero, List.set_cons_succ]
        refine take_at 2 37 (v := ?_) rfl rfl (by kernel_rfl) (by kernel_rfl) (by kernel_rfl) (fun _ _ _ h => h) rfl ?_ trivial ?_
        rotate_left
        · intro w hSw
          go_simp
          try with_reducible rfl
        simp only [List.setIfInBounds_toArray, List.set_cons_zero, List.set_cons_succ]
        refine take_at 3 38 (v := ?_) rfl rfl (by kernel_rfl) (by kernel_rfl) (by kernel_rfl) (fun _ _ _ h => h) rfl ?_ trivial ?_
        rotate_left
        · intro w hSw
          go_simp
          try with_reducible rfl
        simp only [List.setIfInBounds_toArray, List.set_cons_zero, List.set_cons_succ]
        refine take_at 4 39 (v := ?_) rfl rfl (by kernel_rfl) (by kernel_rfl) (by kernel_rfl) (fun _ _ _ h => h) rfl ?_ trivial ?_
        rotate_left
        · intro w hSw
          go_simp
          try with_reducible rfl
        simp only [List.setIfInBounds_toArray, List.set_cons_zero, List.set_cons_succ]
        refine take_at 5 40 (v := ?_) rfl rfl (by kernel_rfl) (by kernel_rfl) (by kernel_rfl) (fun _ _ _ h => h) rfl ?_ trivial ?_
        rotate_left
        · intro w hSw
          go_simp
          try with_reducible rfl
        simp only [List.setIfInBounds_toArray, List.set_cons_zero, List.set_cons_succ]
        refine wpAnyH_ready (rs := [1, 6]) (by kernel_rfl) (by simp) ?_
        refine AllReadyH.cons rfl (fun K hK => ?_) (AllReadyH.cons rfl (fun K hK => ?_) AllReadyH.nil)
        · go_simp
          refine hK.out _ _ trivial (fun _ => ?_)
          clear hK K
          refine wpAnyH_ready (rs := [6]) (by kernel_rfl) (by simp) ?_
          refine AllReadyH.cons rfl (fun K hK => ?_) AllReadyH.nil
          go_simp
          try rw [hwr]
          refine hcall.mono ?_
          rintro e w6 ⟨⟨r6, hr6, a6, b6, s6, ad6, n6, m6, rfl, hrest6⟩, hg6⟩
          obtain ⟨⟨z0, z1, z2, z3⟩, k0, k1, k2, k3⟩ := hzf w6 hg6
          refine hK.out _ _ trivial (fun _ => ?_)
          clear hK K
          have hE6 : w1.heap.size < w6.heap.size := Nat.lt_of_lt_of_le hEl hg6.size
          refine wpAnyH_ready (rs := [7]) (by kernel_rfl) (by simp) ?_
          refine AllReadyH.cons rfl (fun K hK => ?_) AllReadyH.nil
          go_simp
          refine hK.out _ _ trivial (fun _ => ?_)
          clear hK K
          refine wpAnyH_ready (rs := [8]) (by kernel_rfl) (by simp) ?_
          refine AllReadyH.cons rfl (fun K hK => ?_) AllReadyH.nil
          go_simp
          refine hK.out _ _ trivial (fun _ => ?_)
          clear hK K
          refine wpAnyH_ready (rs := [9]) (by kernel_rfl) (by simp) ?_
          refine AllReadyH.cons rfl (fun K hK => ?_) AllReadyH.nil
          go_simp
          refine hK.out _ _ trivial (fun _ => ?_)
          clear hK K
          refine wpAnyH_done (by kernel_rfl) ?_ _
          refine NoPanic.normal ?_
          go_wp2
          exact HFIN.out w6 r6 a6 b6 s6 ad6 n6 m6 hr6 hrest6 hg6
        · go_simp
          try rw [hwr]
          refine hcall.mono ?_
          rintro e w6 ⟨⟨r6, hr6, a6, b6, s6, ad6, n6, m6, rfl, hrest6⟩, hg6⟩
          obtain ⟨⟨z0, z1, z2, z3⟩, k0, k1, k2, k3⟩ := hzf w6 hg6
          refine hK.out _ _ trivial (fun _ => ?_)
          clear hK K
          have hE6 : w1.heap.size < w6.heap.size := Nat.lt_of_lt_of_le hEl hg6.size
          refine wpAnyH_ready (rs := [1]) (by kernel_rfl) (by simp) ?_
          refine AllReadyH.cons rfl (fun K hK => ?_) AllReadyH.nil
          go_simp
          refine hK.out _ _ trivial (fun _ => ?_)
          clear hK K
          refine wpAnyH_ready (rs := [7]) (by kernel_rfl) (by simp) ?_
          refine AllReadyH.cons rfl (fun K hK => ?_) AllReadyH.nil
          go_simp
          refine hK.out _ _ trivial (fun _ => ?_)
          clear hK K
          refine wpAnyH_ready (rs := [8]) (by kernel_rfl) (by simp) ?_
          refine AllReadyH.cons rfl (fun K hK => ?_) AllReadyH.nil
          go_simp
          refine hK.out _ _ trivial (fun _ => ?_)
          clear hK K
          refine wpAnyH_ready (rs := [9]) (by kernel_rfl) (by simp) ?_
          refine AllReadyH.cons rfl (fun K hK => ?_) AllReadyH.nil
          go_simp
          refine hK.out _ _ trivial (fun _ => ?_)
          clear hK K
          refine wpAnyH_done (by kernel_rfl) ?_ _
          refine NoPanic.normal ?_
          go_wp2
          exact HFIN.out w6 r6 a6 b6 s6 ad6 n6 m6 hr6 hrest6 hg6
    · obtain ⟨ea, ec, hec⟩ := hPR.errCell
      have e0 : (((es.length + 1 : Nat) : Int) == 0) = false := by simp; omega
      have hec' : wr.cell? ⟨Q, 2, none⟩ = some (.slice ea (es.length + 1) ec) := hec
      have HLV : Hid (Lv least deep (ts.drop c) (.error y)) := hlv
      have HPR : Hid (PRd wr Q (w.heap.size + 1) ts c' (y :: es)) := hPR
      obtain ⟨⟨x0, x1, x2, x3⟩, f0, f1, f2, f3⟩ := hV
      obtain ⟨⟨y0, y1, y2, y3⟩, _⟩ := hVE
      have hne : ¬ w1.heap.size = w.heap.size := by omega
      clear hlv hPR hec
      go_wp2
      exact bodyPost_ret (v := .agg #[.int .i64 a2, .int .i64 b2, .string s2, .slice ad2 n2 m2]) (by simp [results, Tryd.results16, go_sem, x0, x1, x2, x3]) rfl
        ⟨⟨_, HLV.out, _, _, _, _, _, _, rfl, c', es, (HPR.out.put4 hQw (Nat.lt_succ_self _)).low_to (Nat.le_succ _) hQw, hbd⟩, gput4 HG.out (Nat.le_refl _)⟩

end Go.Proofs.YtibenegbjpoclabDoor
