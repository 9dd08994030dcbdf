/- The contract of what chain answers: the walk. -/
import Derived.Test.YtibenegbjpoclabDoorPaJ
namespace Go.Proofs.YtibenegbjpoclabDoor
open Go.RowKit

theorem take_st {ts : List Tok} {c S : Nat} (h1 : 1 ≤ S) (h5 : S ≤ 5) (h : (strengthR (signOf (ts.drop c))).1 = S) (B : Nat) (w : World) (hR : Rdr w B ts c) (hL : KLaid w) :
    Calls Tryd.prog 44 #[.pointer (some ⟨B, 0, none⟩), .int .i64 2, .int .i64 (S : Int)] w fun e w' => e = .returned (.int .i64 (strengthR (signOf (ts.drop c))).2) ∧ Rdr w' B ts (c + 1) ∧ w.grownBy w' (some B) := by
  have := takeKind_any 2 S B ts c w hR hL (by decide)
  rw [kindAt_two S _ h1 h5, if_pos h, took, if_neg (strength_kd h h1)] at this
  exact this
theorem take_no {ts : List Tok} {c S : Nat} (h1 : 1 ≤ S) (h5 : S ≤ 5) (h : ¬ (strengthR (signOf (ts.drop c))).1 = S) (B : Nat) (w : World) (hR : Rdr w B ts c) (hL : KLaid w) :
    Calls Tryd.prog 44 #[.pointer (some ⟨B, 0, none⟩), .int .i64 2, .int .i64 (S : Int)] w fun e w' => e = .returned (.int .i64 0) ∧ Rdr w' B ts c ∧ w.grownBy w' (some B) := by
  have := takeKind_any 2 S B ts c w hR hL (by decide)
  rw [kindAt_two S _ h1 h5, if_neg h] at this
  exact this

set_option maxHeartbeats 4000000 in
set_option maxRecDepth 100000 in
theorem chain_step (B : Nat) (V : Value) (ts : List Tok) (m c : Nat) (hm : m ≤ 4) (h0 : LevelOK B V ts m c) (h1 : ∀ c', c < c' → LevelOK B V ts m c') : LevelOK B V ts (m + 1) c := by
  intro deep w v f0 caps0 hd hR hE hv hv0
  obtain ⟨p, r, s, v', rfl, hp, hr, hs, cp, cr, cs, hv'⟩ := hv
  injection hv0 with e1 _ e2
  injection e1 with e1
  subst e1 e2
  obtain ⟨f, caps, rfl, hent⟩ := enters_part hv'
  obtain ⟨S, hS⟩ : ∃ S, S = 5 - m := ⟨_, rfl⟩
  have hS1 : 1 ≤ S := by omega
  have hS5 : S ≤ 5 := by omega
  have hS6 : 6 - m = S + 1 := by omega
  have hS7 : 6 - (m + 1) = S := by omega
  rw [← hS] at cs
  rw [hS7]
  have hBw := hR.lt
  have hpl : p < w.heap.size := World.block_lt_of_cell? w _ cp
  have hrl : r < w.heap.size := World.block_lt_of_cell? w _ cr
  have hsl : s < w.heap.size := World.block_lt_of_cell? w _ cs
  show Calls Tryd.prog 47 #[.int .i64 deep, .pointer (some ⟨p, 0, none⟩), .pointer (some ⟨r, 0, none⟩), .pointer (some ⟨s, 0, none⟩)] w _
  have HR : Hid (Rdr w B ts c) := hR
  have HE : Hid (Env w B V) := hE
  have HPV : Hid (PV w B V m (.func (.func f) #[] caps)) := hv'
  clear hR hE hv' hS7 hS
  go_enter Tryd.func47, Tryd.ntmps47
  go_wp2_with fail
  refine (h0 deep _ _ f caps hd (HR.out.alloc _) (HE.out.keep (galloc _ _ _)) (HPV.out.keep (galloc _ _ _)) rfl).mono ?_
  rintro e w1 ⟨⟨r1, hr1, ha1⟩, hg1⟩
  rw [hS6] at hr1
  have HG1 : Hid (w.grownBy w1 (some B)) := gtrans (galloc _ _ _) hg1
  have hz1 : w.heap.size < w1.heap.size := by have := hg1.size; simp at this; omega
  have hv1 := (var4_new w (.int .i64 0) (.int .i64 0) (.string ⟨#[]⟩) (.slice none 0 0) 25).by hg1 (by omega) (by simp)
  have hag : ∃ (a b : Int) (t : ByteArray) (ad : Option Addr) (n k : Nat) (y : Int), e = .returned (.tuple #[.agg #[.int .i64 a, .int .i64 b, .string t, .slice ad n k], .int .i64 y]) ∧ Ch w B w.heap.size w1.heap.size S deep ts c (.int .i64 y) (w1.alloc (.cells #[.int .i64 a, .int .i64 b, .string t, .slice ad n k] 25)) := by
    cases r1 with
    | error y =>
      obtain ⟨a, b, t, ad, n, k, c', he, hy, hR1⟩ := ha1
      exact ⟨a, b, t, ad, n, k, y, he, gtrans HG1.out (galloc _ _ _), by simp, hv1.alloc hz1 _, Or.inr ⟨y, c', rfl, hy, hr1.err, hR1.alloc _⟩⟩
    | ok q =>
      obtain ⟨x, l⟩ := q
      obtain ⟨kv, c', he, hkr, hR1, rfl, hc'⟩ := ha1
      obtain ⟨ad, k, rfl⟩ := hkr.shape
      refine ⟨_, _, _, ad, _, k, 0, he, gtrans HG1.out (galloc _ _ _), by simp, hv1.alloc hz1 _, Or.inl ⟨rfl, x, ad, k, c', var4_new _ _ _ _ _ _, ?_, hR1.alloc _, hc', fun r hm => hr1.on hm, hr1.stop⟩⟩
      refine (hkr.weak fun b hb hl => ⟨?_, by omega⟩).alloc _
      simp at hb
      omega
  obtain ⟨a, b, t, ad, n, k, y, rfl, hch⟩ := hag
  clear ha1 hr1 hg1 hv1 h0
  have HCH : Hid (Ch w B w.heap.size w1.heap.size S deep ts c (.int .i64 y) (w1.alloc (.cells #[.int .i64 a, .int .i64 b, .string t, .slice ad n k] 25))) := hch
  clear hch
  go_wp2
  go_loopw [8] (fun er wr => ∃ yy, er = .int .i64 yy ∧ Hid (Ch w B w.heap.size w1.heap.size S deep ts c er wr)) (fun er wr => chM ts B er wr)
  case atStart => exact ⟨y, rfl, HCH⟩
  case round =>
    obtain ⟨yy, rfl, HC⟩ := hrel
    obtain ⟨hG, hEz, hV, hcase⟩ := HC.out
    have HG : Hid (w.grownBy wr (some B)) := hG
    have cp2 := hG.cell cp (by intro e; exact hp (Option.some.inj e))
    have cr2 := hG.cell cr (by intro e; exact hr (Option.some.inj e))
    have cs2 := hG.cell cs (by intro e; exact hs (Option.some.inj e))
    clear HCH HC hG
    rcases hcase with ⟨he0, x, ad2, cap2, c', hVE, hkr, hR, hc', hmo, hst⟩ | ⟨y2, c', he2, hy2, hlv, hR⟩
    · injection he0 with _ he0
      subst he0
      have HMO : Hid (∀ r, Mo S deep x (ts.drop c') r → Lv S deep (ts.drop c) r) := hmo
      have HKR : Hid (KR wr (fun b => w.heap.size < b ∧ b ≠ w1.heap.size) (.slice ad2 x.kids.length cap2) x.kids) := hkr
      have HVE : Hid (Var4 wr w1.heap.size (.int .i64 x.kind) (.int .i64 x.n) (.string ⟨x.name.toArray⟩) (.slice ad2 x.kids.length cap2)) := hVE
      have HV : Hid (Var4 wr w.heap.size (.int .i64 0) (.int .i64 0) (.string ⟨#[]⟩) (.slice none 0 0)) := hV
      have hE := HE.out.keep HG.out
      have HM : Hid (chM ts B (.int .i64 0) wr = ts.length - c' + 1) := by unfold Hid chM; rw [hR.cntOf]; exact if_pos rfl
      clear hmo hkr hVE hV
      by_cases hS : (strengthR (signOf (ts.drop c'))).1 = S
      · have HTS := take_st hS1 hS5 hS B wr hR hE.kl
        have hk0 : ((strengthR (signOf (ts.drop c'))).2 == 0) = false := by simpa using strength_kd hS hS1
        have HTL : Hid ((ts.drop c').tail = ts.drop (c' + 1)) := by
          have hlt : c' < ts.length := by
            by_cases h : c' < ts.length
            · exact h
            · rw [List.drop_eq_nil_of_le (by omega)] at hS
              exact absurd hS (by show ¬ (0 = S); omega)
          rw [drop_tok hlt]; rfl
        have HS : Hid ((strengthR (signOf (ts.drop c'))).1 = S) := hS
        obtain ⟨kd, hkd⟩ : ∃ kd, kd = (strengthR (signOf (ts.drop c'))).2 := ⟨_, rfl⟩
        rw [← hkd] at HTS hk0
        have HKD : Hid (kd = (strengthR (signOf (ts.drop c'))).2) := hkd
        clear hS hst hkd
        go_wp2_with fail
        refine HTS.mono ?_
        rintro e w2 ⟨rfl, hR2, hg2⟩
        have HG2 : Hid (w.grownBy w2 (some B)) := gtrans HG.out hg2
        have hz2 := hg2.size
        have cp3 := hg2.cell cp2 (by intro e; exact hp (Option.some.inj e))
        have hE2 := hE.keep hg2
        have hPV2 := HPV.out.keep HG2.out
        have hpl2 : p < w2.heap.size := by omega
        have HVE2 : Hid (Var4 w2 w1.heap.size (.int .i64 x.kind) (.int .i64 x.n) (.string ⟨x.name.toArray⟩) (.slice ad2 x.kids.length cap2)) := HVE.out.by hg2 (by omega) hEz
        have HV2 : Hid (Var4 w2 w.heap.size (.int .i64 0) (.int .i64 0) (.string ⟨#[]⟩) (.slice none 0 0)) := HV.out.by hg2 (by omega) (by omega)
        have HKR2 : Hid (KR w2 (fun b => w.heap.size < b ∧ b ≠ w1.heap.size) (.slice ad2 x.kids.length cap2) x.kids) := HKR.out.byp hg2 (fun b hb => by omega)
        clear HTS hg2 HVE HV HKR hE hR cr2 cs2
        go_wp2_with fail
        have hcall := h1 (c' + 1) (by omega) deep _ _ f caps hd (hR2.alloc (.cells #[.int .i64 0, .int .i64 0, .string ⟨#[]⟩, .slice none 0 0] 25)) (hE2.keep (galloc _ _ _)) (hPV2.keep (galloc _ _ _)) rfl
        refine hcall.mono ?_
        clear hcall hR2 hE2 hPV2
        rintro e w3 ⟨⟨r3, hr3, ha3⟩, hg3⟩
        rw [hS6] at hr3
        have HG3 : Hid (w.grownBy w3 (some B)) := gtrans (gtrans HG2.out (galloc _ _ _)) hg3
        have hz3 : w2.heap.size < w3.heap.size := by have := hg3.size; simp at this; omega
        have hVE3 := (HVE2.out.alloc (by omega) _).by hg3 (by omega) (by simp; omega)
        have HV3 : Hid (Var4 w3 w.heap.size (.int .i64 0) (.int .i64 0) (.string ⟨#[]⟩) (.slice none 0 0)) := (HV2.out.alloc (by omega) _).by hg3 (by omega) (by simp; omega)
        have HKR3 : Hid (KR w3 (fun b => w.heap.size < b ∧ b ≠ w1.heap.size ∧ b ≠ w2.heap.size) (.slice ad2 x.kids.length cap2) x.kids) := ((HKR2.out.weak (q := fun b => w.heap.size < b ∧ b ≠ w1.heap.size ∧ b ≠ w2.heap.size) fun b hb hl => ⟨hb.1, hb.2, by omega⟩).alloc _).byp hg3 (fun b hb => by omega)
        have hVT := (var4_new w2 (.int .i64 0) (.int .i64 0) (.string ⟨#[]⟩) (.slice none 0 0) 25).by hg3 (by omega) (by simp)
        have HVE3 : Hid (Var4 w3 w1.heap.size (.int .i64 x.kind) (.int .i64 x.n) (.string ⟨x.name.toArray⟩) (.slice ad2 x.kids.length cap2)) := hVE3
        obtain ⟨⟨x0, x1, x2, x3⟩, f0, f1, f2, f3⟩ := hVE3
        obtain ⟨⟨y0, y1, y2, y3⟩, g0, g1, g2, g3⟩ := hVT
        have hne1 : ¬ w2.heap.size = w1.heap.size := by omega
        have hne2 : ¬ w1.heap.size = w2.heap.size := by omega
        have hlt1 : w1.heap.size < w3.heap.size := by omega
        clear hg3 HVE2 HV2 HKR2 cp3
        cases r3 with
        | error y3 =>
          obtain ⟨a3, b3, s3, ad3, n3, m3, c3, rfl, hy3, hR3⟩ := ha3
          have HLV : Hid (Lv S deep (ts.drop c) (.error y3)) := by
            refine HMO.out _ (.bad (by rw [HS.out]; omega) ?_)
            rw [HS.out, HTL.out]
            exact hr3
          have HR3 : Hid (Rdr w3 B ts c3) := hR3
          have HY3 : Hid (y3 ≠ 0) := hy3
          clear hr3 hR3 hy3
          go_wp2
          refine ⟨⟨y3, rfl, gtrans (gput4 (gput4 HG3.out (by omega)) (by omega)) (galloc _ _ _), by simp; omega, ((HV3.out.other (by omega)).other (by omega)).alloc (by simp; omega) _, Or.inr ⟨y3, c3, rfl, HY3.out, HLV.out, ((HR3.out.put4 (by omega)).put4 (by omega)).alloc _⟩⟩, ?_⟩
          rw [HM.out]
          unfold chM
          rw [if_neg (by exact HY3.out)]
          omega
        | ok q =>
          obtain ⟨k3, l3⟩ := q
          obtain ⟨kv3, c3, rfl, hkr3, hR3, rfl, hc3⟩ := ha3
          obtain ⟨ad3, m3, rfl⟩ := hkr3.shape
          have HKK : Hid (KR w3 (fun b => w.heap.size < b ∧ b ≠ w1.heap.size ∧ b ≠ w2.heap.size) (.slice ad3 k3.kids.length m3) k3.kids) := hkr3.weak fun b hb _ => by simp at hb; omega
          have HLV : Hid ((∀ r, Mo S deep (.mk kd 0 [] [x, k3]) (ts.drop c3) r → Lv S deep (ts.drop c) r) ∧ (strengthR (signOf (ts.drop c3))).1 < S + 1) := by
            refine ⟨fun r hm => HMO.out _ (.step (k := k3) (l' := ts.drop c3) (by rw [HS.out]; omega) ?_ (by rw [← HKD.out]; exact hm)), hr3.stop⟩
            rw [HS.out, HTL.out]
            exact hr3
          have HR3 : Hid (Rdr w3 B ts c3) := hR3
          clear hr3 hR3 hkr3
          simp only [exV]
          go_wp2
          have hRf := ((HR3.out.put4 (a := .int .i64 k3.kind) (b := .int .i64 k3.n) (c := .string ⟨k3.name.toArray⟩) (d := .slice ad3 k3.kids.length m3) (show B < w2.heap.size by omega)).put4 (a := .int .i64 kd) (b := .int .i64 0) (c := .string ⟨#[]⟩) (d := .slice (some ⟨w3.heap.size, 0, none⟩) 2 2) (show B < w1.heap.size by omega)).alloc (.cells #[.int .i64 x.kind, .int .i64 x.n, .string ⟨x.name.toArray⟩, .slice ad2 x.kids.length cap2, .int .i64 k3.kind, .int .i64 k3.n, .string ⟨k3.name.toArray⟩, .slice ad3 k3.kids.length m3] 25)
          have hz : w3.heap.size = ((((((((w3.setCell ⟨w2.heap.size, 0, none⟩ (.int .i64 k3.kind)).setCell ⟨w2.heap.size, 1, none⟩ (.int .i64 k3.n)).setCell ⟨w2.heap.size, 2, none⟩ (.string ⟨k3.name.toArray⟩)).setCell ⟨w2.heap.size, 3, none⟩ (.slice ad3 k3.kids.length m3)).setCell ⟨w1.heap.size, 0, none⟩ (.int .i64 kd)).setCell ⟨w1.heap.size, 1, none⟩ (.int .i64 0)).setCell ⟨w1.heap.size, 2, none⟩ (.string ⟨#[]⟩)).setCell ⟨w1.heap.size, 3, none⟩ (.slice (some ⟨w3.heap.size, 0, none⟩) 2 2)).heap.size := by simp
          refine ⟨⟨0, rfl, gtrans (gput4 (gput4 HG3.out (by omega)) (by omega)) (galloc _ _ _), by simp; omega, ((HV3.out.other (by omega)).other (by omega)).alloc (by simp; omega) _,
            Or.inl ⟨rfl, .mk kd 0 [] [x, k3], some ⟨w3.heap.size, 0, none⟩, 2, c3, ((HVE3.out.other hne2).put4).alloc (by simp; omega) _, ?_, hRf, by omega, HLV.out.1, HLV.out.2⟩⟩, ?_⟩
          · refine KR.two (x := x) (y := k3) (by show _ < _ ∧ _ ≠ _; omega) (new_at _ hz.symm) ?_ ?_
            · exact (((HKR3.out.set4p (fun b hb => hb.2.2)).set4p (fun b hb => hb.2.1)).alloc _).weak fun b hb _ => ⟨hb.1, hb.2.1⟩
            · exact (((HKK.out.set4p (fun b hb => hb.2.2)).set4p (fun b hb => hb.2.1)).alloc _).weak fun b hb _ => ⟨hb.1, hb.2.1⟩
          · rw [HM.out]
            unfold chM
            rw [hRf.cntOf, if_pos (by rfl)]
            have := HR3.out.le
            omega
      · have HTS := take_no hS1 hS5 hS B wr hR hE.kl
        have HLV : Hid (Lv S deep (ts.drop c) (.ok (x, ts.drop c'))) := HMO.out _ (.stop (by omega))
        clear hS hst
        go_wp2_with fail
        refine HTS.mono ?_
        rintro e w2 ⟨rfl, hR2, hg2⟩
        have HG2 : Hid (w.grownBy w2 (some B)) := gtrans HG.out hg2
        have hz2 := hg2.size
        have hVE2 := HVE.out.by hg2 (by omega) hEz
        have hV2 := HV.out.by hg2 (by omega) (by omega)
        have HKR2 : Hid (KR w2 (fun b => w.heap.size < b ∧ b ≠ w1.heap.size) (.slice ad2 x.kids.length cap2) x.kids) := HKR.out.byp hg2 (fun b hb => by omega)
        have HR2 : Hid (Rdr w2 B ts c') := hR2
        obtain ⟨⟨x0, x1, x2, x3⟩, f0, f1, f2, f3⟩ := hV2
        obtain ⟨⟨y0, y1, y2, y3⟩, g0, g1, g2, g3⟩ := hVE2
        have hne1 : ¬ w.heap.size = w1.heap.size := by omega
        have hne2 : ¬ w1.heap.size = w.heap.size := by omega
        clear HTS hg2 HVE HV HKR hE hR cr2 cs2 cp2 hR2
        go_wp2
        exact bodyPost_ret (v := .tuple #[.agg #[.int .i64 x.kind, .int .i64 x.n, .string ⟨x.name.toArray⟩, .slice ad2 x.kids.length cap2], .int .i64 0]) (by simp [results, Tryd.results47, go_sem, x0, x1, x2, x3]) rfl
          ⟨⟨_, HLV.out, _, _, rfl, (HKR2.out.set4p (fun b hb => by omega)).weak (fun b hb _ => by omega), HR2.out.put4 hBw, rfl, hc'⟩, gput4 HG2.out (Nat.le_refl _)⟩
    · injection he2 with _ he2
      subst he2
      have e2 : (yy == 0) = false := by simpa using hy2
      have HY : Hid (yy ≠ 0) := hy2
      have HLV : Hid (Lv S deep (ts.drop c) (.error yy)) := hlv
      have HR2 : Hid (Rdr wr B ts c') := hR
      obtain ⟨⟨x0, x1, x2, x3⟩, f0, f1, f2, f3⟩ := hV
      clear hR hlv hy2 cr2 cs2 cp2
      go_wp2
      exact bodyPost_ret (v := .tuple #[.agg #[.int .i64 0, .int .i64 0, .string ⟨#[]⟩, .slice none 0 0], .int .i64 yy]) (by simp [results, Tryd.results47, go_sem, x0, x1, x2, x3]) rfl
        ⟨⟨_, HLV.out, _, _, _, _, _, _, _, rfl, HY.out, HR2.out.put4 hBw⟩, gput4 HG.out (Nat.le_refl _)⟩

end Go.Proofs.YtibenegbjpoclabDoor
