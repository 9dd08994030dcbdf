/- The contract of package expr's Eval: the walk. -/
import Derived.Test.YtibenegbjpoclabDoorEvC
namespace Go.Proofs.YtibenegbjpoclabDoor
open Go.RowKit

def EvalOK (w0 : World) (qv : Value) (equs : List (List UInt8 × Int)) (kv : Value) (ks : List Ex) : Prop := ∀ (kind n : Int) (nm : List UInt8) (w : World), Below w0.heap.size w0 w →
  Calls Tryd.prog 9 #[.agg #[.int .i64 kind, .int .i64 n, .string ⟨nm.toArray⟩, kv], qv] w fun e w' => e = .returned (evalV (evalR equs (.mk kind n nm ks))) ∧ Below w.heap.size w w'

/-- What is kept behind the loop: E the expression, R the answer, K the row. -/
structure EvMem (w wr : World) (kind n : Int) (nm : List UInt8) (ad : Option Addr) (len cap : Nat) (done : List Va) : Prop where
  bel : Below w.heap.size w wr
  sz : w.heap.size + 1 + 1 < wr.heap.size
  e : Var4 wr w.heap.size (.int .i64 kind) (.int .i64 n) (.string ⟨nm.toArray⟩) (.slice ad len cap)
  r : Var2 wr (w.heap.size + 1) (.string ⟨#[]⟩) (.int .i64 0)
  k : Vals wr (w.heap.size + 1 + 1) len done

theorem EvMem.keep {w wr wr' : World} {kind n : Int} {nm : List UInt8} {ad : Option Addr} {len cap : Nat} {done : List Va} (h : EvMem w wr kind n nm ad len cap done) (hb : Below wr.heap.size wr wr') : EvMem w wr' kind n nm ad len cap done := by
  have := h.sz
  exact ⟨h.bel.trans (hb.mono (by omega)), Nat.lt_of_lt_of_le h.sz hb.size, h.e.keep (hb.block _ (by omega)), h.r.keep (hb.block _ (by omega)), h.k.keep (hb.block _ h.sz)⟩
theorem EvMem.put {w wr : World} {kind n : Int} {nm : List UInt8} {ad : Option Addr} {len cap : Nat} {done : List Va} (h : EvMem w wr kind n nm ad len cap done) {k : Nat} (hk : done.length = k) (hn : k < len) (v : Va) :
    EvMem w ((wr.setCell ⟨w.heap.size + 1 + 1, k * 2, none⟩ (.string ⟨v.name.toArray⟩)).setCell ⟨w.heap.size + 1 + 1, k * 2 + 1, none⟩ (.int .i64 v.n)) kind n nm ad len cap (done ++ [v]) := by
  have hne : ∀ b, b ≠ w.heap.size + 1 + 1 → ((wr.setCell ⟨w.heap.size + 1 + 1, k * 2, none⟩ (.string ⟨v.name.toArray⟩)).setCell ⟨w.heap.size + 1 + 1, k * 2 + 1, none⟩ (.int .i64 v.n)).heap[b]? = wr.heap[b]? := fun b hb => by
    rw [Below.heap_setCell _ _ _ _ (by exact hb), Below.heap_setCell _ _ _ _ (by exact hb)]
  exact ⟨(h.bel.setCell (by show _ ≤ w.heap.size + 1 + 1; omega) _).setCell (by show _ ≤ w.heap.size + 1 + 1; omega) _, by simpa using h.sz, h.e.keep (hne _ (by omega)), h.r.keep (hne _ (by omega)), h.k.put hk hn v⟩

set_option maxHeartbeats 4000000 in
set_option maxRecDepth 100000 in
theorem eval_loop (w0 : World) (p : Nat → Prop) (qv : Value) (equs : List (List UInt8 × Int)) (hL : KLaid w0) (hQ : QReads w0 qv equs) (ad : Option Addr) (cap : Nat) (ks : List Ex) (vi : Nat → Value) (hm : ks.length ≤ 2513169434843)
    (hc : 0 < ks.length → ∃ b o, ad = some ⟨b, o, none⟩ ∧ p b ∧ b < w0.heap.size ∧ ∀ i (h : i < ks.length),
        w0.cell? ⟨b, o + i * 4, none⟩ = some (.int .i64 ks[i].kind) ∧ w0.cell? ⟨b, o + i * 4 + 1, none⟩ = some (.int .i64 ks[i].n) ∧ w0.cell? ⟨b, o + i * 4 + 2, none⟩ = some (.string ⟨ks[i].name.toArray⟩) ∧ w0.cell? ⟨b, o + i * 4 + 3, none⟩ = some (vi i))
    (hk : ∀ i (h : i < ks.length), KR w0 p (vi i) ks[i].kids) (ih : ∀ i (h : i < ks.length), EvalOK w0 qv equs (vi i) ks[i].kids) : EvalOK w0 qv equs (.slice ad ks.length cap) ks := by
  intro kind n nm w hB0
  have hmk := run_make_va ks.length hm
  have hz0 := hB0.size
  have hs0 := hL.sz
  have HB0 : Hid (Below w0.heap.size w0 w) := hB0
  clear hB0
  obtain ⟨qad, qcap, rfl⟩ : ∃ qad qcap, qv = .slice qad equs.length qcap := by obtain ⟨a, b, e, _⟩ := hQ; exact ⟨a, b, e⟩
  go_enter Tryd.func9, Tryd.ntmps9
  go_wp2
  clear hmk
  go_loopw [18] (fun i wr => ∃ (k : Nat) (done : List Va), k ≤ ks.length ∧ i = .int .i64 k ∧ Hid (EvMem w wr kind n nm ad ks.length cap done) ∧ Hid (EvAt equs ks k done)) (fun i _ => ks.length - (intOf i).toNat)
  case atStart =>
    refine ⟨0, [], Nat.zero_le _, rfl, ⟨(((Below.refl _ _).alloc (Nat.le_refl _) _).alloc (by simp) _).alloc (by simp; omega) _, by simp, ?_, ?_, ?_⟩, evAt_start _ _⟩
    · exact ((var4_new w _ _ _ _ _).alloc (by simp) _).alloc (by simp; omega) _
    · exact (var2_of (new_at _ (by simp))).keep (Below.heap_alloc _ _ _ (by simp))
    · have := vals_new ((w.alloc (.cells #[.int .i64 kind, .int .i64 n, .string ⟨nm.toArray⟩, .slice ad ks.length cap] 25)).alloc (.cells #[.string ⟨#[]⟩, .int .i64 0] 32)) ks.length
      simpa using this
  case round =>
    obtain ⟨k, done, hkl, rfl, HM, HV⟩ := hrel
    have hbw := HM.out.bel.size
    by_cases hlt : k < ks.length
    · have hk1 : (k : Int) < ks.length := by omega
      obtain ⟨b, o, rfl, _, hbl, hcs⟩ := hc (by omega)
      obtain ⟨c0, c1, c2, c3⟩ := hcs k hlt
      have hBr : Below w0.heap.size w0 wr := HB0.out.trans (HM.out.bel.mono hz0)
      rw [← hBr.cell (by exact hbl)] at c0 c1 c2 c3
      obtain ⟨ad2, cap2, hvi⟩ := (hk k hlt).shape
      have hcall := ih k hlt
      rw [hvi] at hcall c3
      have hbr : b < wr.heap.size := by omega
      have HBR : Hid (Below w0.heap.size w0 wr) := hBr
      clear hcs hvi hBr
      go_wp2_with fail
      have hcall2 := hcall ks[k].kind ks[k].n ks[k].name _ (HBR.out.trans ((Below.refl w0.heap.size wr).alloc (by omega) (.cells #[.int .i64 ks[k].kind, .int .i64 ks[k].n, .string ⟨ks[k].name.toArray⟩, .slice ad2 ks[k].kids.length cap2] 25)))
      refine hcall2.mono ?_
      rintro e w1 ⟨rfl, hb1⟩
      rw [← Ex.eta]
      have HM1 : Hid (EvMem w w1 kind n nm (some ⟨b, o, none⟩) ks.length cap done) := (HM.out.keep ((Below.refl _ _).alloc (Nat.le_refl _) _)).keep hb1
      clear hcall hcall2 hb1 c0 c1 c2 c3
      cases hv : evalR equs ks[k] with
      | error x =>
        have hx := evalR_bad _ hv
        have hx1 : (x != 0) = true := by simpa using hx
        have HE : Hid (evalV (evalR equs (.mk kind n nm ks)) = .tuple #[.agg #[.string ⟨#[]⟩, .int .i64 0], .int .i64 x]) := by unfold Hid; rw [evalR, evAt_bad HV.out hlt hv]; rfl
        obtain ⟨⟨x0, x1⟩, f0, f1⟩ := HM1.out.r
        have hR1 := HM1.out.sz
        have hR2 : w.heap.size + 1 < w1.heap.size := by omega
        clear hv
        simp only [evalV]
        go_wp2
        exact bodyPost_ret (v := .tuple #[.agg #[.string ⟨#[]⟩, .int .i64 0], .int .i64 x]) (by simp [results, Tryd.results9, go_sem, x0, x1, World.cell?_alloc_lt, hR2]) rfl
          ⟨by rw [HE.out], (bput2 HM1.out.bel (Nat.le_succ _)).alloc (by simp; omega) _⟩
      | ok v =>
        have HV2 : Hid (EvAt equs ks (k + 1) (done ++ [v])) := evAt_ok HV.out hlt hv
        have hdl : done.length = k := HV.out.1
        obtain ⟨y0, y1⟩ := HM1.out.k.1 k hlt
        have g0 := HM1.out.k.2 (k * 2)
        have g1 := HM1.out.k.2 (k * 2 + 1)
        have hR1 := HM1.out.sz
        have hR2 : w.heap.size + 1 < w1.heap.size := by omega
        clear hv
        simp only [evalV, vaV]
        go_wp2
        exact ⟨⟨k + 1, done ++ [v], by omega, by go_num, (HM1.out.put hdl hlt v).keep ((Below.refl _ _).alloc (Nat.le_refl _) _), HV2⟩, by simp [intOf]; omega⟩
    · have hk1 : ¬ (k : Int) < ks.length := by omega
      have hev := evAt_end HV.out (by omega)
      have hdl : done.length = ks.length := by have := HV.out.1; omega
      have HE : Hid (evalV (evalR equs (.mk kind n nm ks)) = evalV (combR equs kind n nm done)) := by unfold Hid; rw [evalR, hev]
      have hQr : QReads wr (.slice qad equs.length qcap) equs := hQ.below (HB0.out.trans (HM.out.bel.mono hz0)) (Nat.le_refl _)
      have hLr : KLaid wr := hL.below (HB0.out.trans (HM.out.bel.mono hz0)) hs0
      obtain ⟨⟨e0, e1, e2, e3⟩, _⟩ := HM.out.e
      have hR1 := HM.out.sz
      have hR0 : w.heap.size < wr.heap.size := by omega
      clear hev hc hk ih hQ
      go_wp2_with fail
      refine (whole_any kind n nm ad ks.length cap wr hLr).mono ?_
      rintro e w1 ⟨rfl, hb1⟩
      have HM1 : Hid (EvMem w w1 kind n nm ad ks.length cap done) := HM.out.keep hb1
      have hQ1 := hQr.below hb1 (Nat.le_refl _)
      have HQ1 : Hid (QReads w1 (.slice qad equs.length qcap) equs) := hQ1
      rw [← hb1.cell (by exact hR0)] at e0 e1 e2 e3
      have hS1 := HM1.out.sz
      have hS0 : w.heap.size + 1 < w1.heap.size := by omega
      obtain ⟨⟨x0, x1⟩, f0, f1⟩ := HM1.out.r
      clear hb1 hQr hQ1 hLr
      cases hw : decide (1 ≤ kind ∧ kind ≤ 11 ∧ (ks.length : Int) = kKids kind)
      · have HC : Hid (combR equs kind n nm done = .error 1) := comb_no (by unfold wholeB; rw [hdl]; exact hw)
        clear hw
        go_wp2
        exact bodyPost_ret (v := .tuple #[.agg #[.string ⟨#[]⟩, .int .i64 0], .int .i64 1]) (by simp [results, Tryd.results9, go_sem, x0, x1]) rfl
          ⟨by rw [HE.out, HC.out]; rfl, bput2 HM1.out.bel (Nat.le_succ _)⟩
      · have hw2 : 1 ≤ kind ∧ kind ≤ 11 ∧ (ks.length : Int) = kKids kind := by simpa using hw
        have hkk := kKids_eq hw2.1 hw2.2.1
        clear hw
        by_cases h2 : kind ≤ 2
        · rw [if_pos h2] at hkk
          have hl0 : ks.length = 0 := by omega
          have hd0 : done = [] := List.eq_nil_of_length_eq_zero (by omega)
          subst hd0
          by_cases hk2 : kind = 2
          · subst hk2
            have HC : Hid (combR equs 2 n nm [] = .ok (namedR nm equs)) := comb_name
            clear hkk hw2 h2
            rw [hl0] at e3
            simp only [hl0]
            go_wp2_with fail
            refine (named_any nm _ equs w1 HQ1.out).mono ?_
            rintro e w2 ⟨rfl, hb2⟩
            have HM2 : Hid (EvMem w w2 2 n nm ad ks.length cap []) := HM1.out.keep hb2
            rw [← hb2.cell (by exact hS0)] at x0 x1
            rw [← hb2.frozen (by exact hS0)] at f0 f1
            clear hb2
            simp only [vaV]
            go_wp2
            exact bodyPost_ret (v := .tuple #[vaV (namedR nm equs), .int .i64 0]) (by simp [results, Tryd.results9, go_sem, x0, x1, vaV]) rfl
              ⟨by rw [HE.out, HC.out]; rfl, bput2 HM2.out.bel (Nat.le_succ _)⟩
          · have hk1 : kind = 1 := by omega
            subst hk1
            have HC : Hid (combR equs 1 n nm [] = .ok ⟨[], sgn n⟩) := comb_num
            clear hkk hw2 h2 hk2
            rw [hl0] at e3
            simp only [hl0]
            go_wp2_with fail
            refine (number_any n w1).mono ?_
            rintro e w2 ⟨rfl, hb2⟩
            have HM2 : Hid (EvMem w w2 1 n nm ad ks.length cap []) := HM1.out.keep hb2
            rw [← hb2.cell (by exact hS0)] at x0 x1
            rw [← hb2.frozen (by exact hS0)] at f0 f1
            clear hb2
            go_wp2
            exact bodyPost_ret (v := .tuple #[.agg #[.string ⟨#[]⟩, .int .i64 (sgn n)], .int .i64 0]) (by simp [results, Tryd.results9, go_sem, x0, x1]) rfl
              ⟨by rw [HE.out, HC.out]; rfl, bput2 HM2.out.bel (Nat.le_succ _)⟩
        · rw [if_neg h2] at hkk
          by_cases h4 : kind ≤ 4
          · rw [if_pos h4] at hkk
            have hl1 : ks.length = 1 := by omega
            have hk34 : kind = 3 ∨ kind = 4 := by omega
            match done, hdl with
            | [], hdl => simp at hdl; omega
            | a :: b :: r, hdl => simp at hdl; omega
            | [a], hdl =>
              have HC : Hid (combR equs kind n nm [a] = if a.name = [] then .ok ⟨[], sgn (if kind = 4 then -a.n - 1 else -a.n)⟩ else .error 8) := comb_one hk34
              obtain ⟨y0, y1⟩ := HM1.out.k.1 0 (by omega)
              have y0' : w1.cell? ⟨w.heap.size + 1 + 1, 0, none⟩ = some (.string ⟨a.name.toArray⟩) := y0
              have y1' : w1.cell? ⟨w.heap.size + 1 + 1, 1, none⟩ = some (.int .i64 a.n) := y1
              clear y0 y1 hkk hw2 h2 h4
              rw [hl1] at e3
              simp only [hl1]
              obtain ⟨t, m, y, hty⟩ := evalV_shape (combR equs kind n nm [a])
              have HT : Hid (evalV (combR equs kind n nm [a]) = .tuple #[.agg #[.string t, .int .i64 m], .int .i64 y]) := hty
              have hone : ∀ w, Calls Tryd.prog 19 #[.int .i64 kind, .agg #[.string ⟨a.name.toArray⟩, .int .i64 a.n]] w fun e w' => e = .returned (.tuple #[.agg #[.string t, .int .i64 m], .int .i64 y]) ∧ Below w.heap.size w w' := fun w => by
                have := ofOne_any kind a w hk34
                rw [← HC.out, HT.out] at this
                exact this
              clear hty HC
              go_wp2_with fail
              go_region_with (go_at_call 19; refine (hone _).mono ?_; rintro e w2 ⟨rfl, hb2⟩; have z0 : w2.cell? ⟨w.heap.size + 1, 0, none⟩ = some (.string ⟨#[]⟩) := (hb2.cell (by exact hS0)).trans x0; have z1 : w2.cell? ⟨w.heap.size + 1, 1, none⟩ = some (.int .i64 0) := (hb2.cell (by exact hS0)).trans x1; have h0 : w2.frozen? ⟨w.heap.size + 1, 0, none⟩ = false := (hb2.frozen (by exact hS0)).trans f0; have h1 : w2.frozen? ⟨w.heap.size + 1, 1, none⟩ = false := (hb2.frozen (by exact hS0)).trans f1; have HB2 : Hid (Below w.heap.size w w2) := HM1.out.bel.trans (Below.drew (Below.refl _ _) |>.trans (hb2.mono (by show _ ≤ w1.heap.size; omega))); clear hb2)
              all_goals
                go_wp2
                exact bodyPost_ret (v := .tuple #[.agg #[.string t, .int .i64 m], .int .i64 y]) (by simp [results, Tryd.results9, go_sem, z0, z1]) rfl
                  ⟨by rw [HE.out, HT.out], bput2 HB2.out (Nat.le_succ _)⟩
          · rw [if_neg h4] at hkk
            have hl2 : ks.length = 2 := by omega
            have hk5 : 5 ≤ kind := by omega
            have hk11 : kind ≤ 11 := hw2.2.1
            match done, hdl with
            | [], hdl => simp at hdl; omega
            | [a], hdl => simp at hdl; omega
            | a :: b :: c :: r, hdl => simp at hdl; omega
            | [a, b], hdl =>
              obtain ⟨y0, y1⟩ := HM1.out.k.1 0 (by omega)
              have y0' : w1.cell? ⟨w.heap.size + 1 + 1, 0, none⟩ = some (.string ⟨a.name.toArray⟩) := y0
              have y1' : w1.cell? ⟨w.heap.size + 1 + 1, 1, none⟩ = some (.int .i64 a.n) := y1
              obtain ⟨v0, v1⟩ := HM1.out.k.1 1 (by omega)
              have v0' : w1.cell? ⟨w.heap.size + 1 + 1, 2, none⟩ = some (.string ⟨b.name.toArray⟩) := v0
              have v1' : w1.cell? ⟨w.heap.size + 1 + 1, 3, none⟩ = some (.int .i64 b.n) := v1
              clear y0 y1 v0 v1 hkk hw2 h2 h4
              rw [hl2] at e3
              simp only [hl2]
              obtain ⟨t, m, y, hty⟩ := evalV_shape (combR equs kind n nm [a, b])
              have HT : Hid (evalV (combR equs kind n nm [a, b]) = .tuple #[.agg #[.string t, .int .i64 m], .int .i64 y]) := hty
              have htwo : ∀ w, Calls Tryd.prog 18 #[.int .i64 kind, .agg #[.string ⟨a.name.toArray⟩, .int .i64 a.n], .agg #[.string ⟨b.name.toArray⟩, .int .i64 b.n]] w fun e w' => e = .returned (.tuple #[.agg #[.string t, .int .i64 m], .int .i64 y]) ∧ Below w.heap.size w w' := fun w => by
                refine (ofTwo_any kind a b w hk5 hk11).mono fun e w' h => ⟨h.1.trans ?_, h.2⟩
                rw [← HT.out, comb_two hk5 hk11]
                cases placeR kind a.name b.name <;> rfl
              clear hty
              go_wp2_with fail
              go_region_with (go_at_call 18; refine (htwo _).mono ?_; rintro e w2 ⟨rfl, hb2⟩; have z0 : w2.cell? ⟨w.heap.size + 1, 0, none⟩ = some (.string ⟨#[]⟩) := (hb2.cell (by exact hS0)).trans x0; have z1 : w2.cell? ⟨w.heap.size + 1, 1, none⟩ = some (.int .i64 0) := (hb2.cell (by exact hS0)).trans x1; have h0 : w2.frozen? ⟨w.heap.size + 1, 0, none⟩ = false := (hb2.frozen (by exact hS0)).trans f0; have h1 : w2.frozen? ⟨w.heap.size + 1, 1, none⟩ = false := (hb2.frozen (by exact hS0)).trans f1; have HB2 : Hid (Below w.heap.size w w2) := HM1.out.bel.trans (Below.drew (Below.refl _ _) |>.trans (hb2.mono (by show _ ≤ w1.heap.size; omega))); clear hb2)
              all_goals
                go_wp2
                exact bodyPost_ret (v := .tuple #[.agg #[.string t, .int .i64 m], .int .i64 y]) (by simp [results, Tryd.results9, go_sem, z0, z1]) rfl
                  ⟨by rw [HE.out, HT.out], bput2 HB2.out (Nat.le_succ _)⟩

theorem eval_kr (w0 : World) (p : Nat → Prop) (qv : Value) (equs : List (List UInt8 × Int)) (hL : KLaid w0) (hQ : QReads w0 qv equs) {kv : Value} {ks : List Ex} (h : KR w0 p kv ks) : EvalOK w0 qv equs kv ks := by
  induction h with
  | mk ad cap ks vi hm hc hk ih => exact eval_loop w0 p qv equs hL hQ ad cap ks vi hm hc hk ih

theorem eval_any (x : Ex) (kv qv : Value) (equs : List (List UInt8 × Int)) (w : World) (p : Nat → Prop) (hL : KLaid w) (hQ : QReads w qv equs) (hk : KR w p kv x.kids) :
    Calls Tryd.prog 9 #[exV x kv, qv] w fun e w' => e = .returned (evalV (evalR equs x)) ∧ Below w.heap.size w w' := by
  have := eval_kr w p qv equs hL hQ hk x.kind x.n x.name w (Below.refl _ _)
  rw [← Ex.eta] at this
  exact this

end Go.Proofs.YtibenegbjpoclabDoor
