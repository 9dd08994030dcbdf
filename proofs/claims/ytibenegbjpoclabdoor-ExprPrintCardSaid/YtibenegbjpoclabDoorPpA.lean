/- ExprPrint answers true: the walk. -/
import Derived.Test.YtibenegbjpoclabDoorAlB
import Derived.Test.YtibenegbjpoclabDoorPrL
import Derived.Test.YtibenegbjpoclabDoorReH
import Derived.Test.YtibenegbjpoclabDoorXTok
namespace Go.Proofs.YtibenegbjpoclabDoor
open Go.RowKit

theorem pevalV_one (r : Except Int Va) : ∃ (nm : List UInt8) (i y : Int), evalV r = .tuple #[.agg #[.string ⟨nm.toArray⟩, .int .i64 i], .int .i64 y] := by
  cases r with
  | ok v => exact ⟨v.name, v.n, 0, rfl⟩
  | error y => exact ⟨[], 0, y, rfl⟩

set_option maxHeartbeats 8000000 in
set_option maxRecDepth 100000 in
theorem printLaw_any (tv qv : Value) (ts : List Tok) (equs : List (List UInt8 × Int)) (w : World) (hL : KLaid w) (hTab : Lib.TabIs Tryd.prog w "internal/strconv.uint64pow10" .u64 Lib.pow10Tab) (hs : 1 < w.heap.size) (hT : TReads w tv ts) (hlen : 24 * ts.length ≤ 140737488355328) (hQ : QReads w qv equs) :
    Calls Tryd.prog 4 #[tv, qv] w fun e w' => e = .returned (.bool true) ∧ Below w.heap.size w w' := by
  obtain ⟨tad, tcap, htv⟩ : ∃ qad qcap, tv = .slice qad ts.length qcap := by obtain ⟨a, b, e, _⟩ := hT; exact ⟨a, b, e⟩
  obtain ⟨qad, qcap, hqv⟩ : ∃ qad qcap, qv = .slice qad equs.length qcap := by obtain ⟨a, b, e, _⟩ := hQ; exact ⟨a, b, e⟩
  subst htv hqv
  have hal := alive_any w hL hTab hs
  have HL : Hid (KLaid w) := hL
  have HTab : Hid (Lib.TabIs Tryd.prog w "internal/strconv.uint64pow10" .u64 Lib.pow10Tab) := hTab
  have HT : Hid (TReads w (.slice tad ts.length tcap) ts) := hT
  have HQ : Hid (QReads w (.slice qad equs.length qcap) equs) := hQ
  clear hL hTab hT hQ
  go_enter Tryd.func4, Tryd.ntmps4
  go_wp2_with fail
  refine hal.mono ?_
  rintro e w1 ⟨rfl, hb1⟩
  have HB1 : Hid (Below w.heap.size w w1) := hb1
  have hpa := parse_any _ ts w1 (HT.out.below hb1 (Nat.le_refl _)) (HL.out.below hb1 (by omega))
  clear hal hb1
  go_wp2_with fail
  refine hpa.mono ?_
  rintro e w2 ⟨⟨r, hr, ha⟩, hb2⟩
  have HB2 : Hid (Below w.heap.size w w2) := HB1.out.trans (hb2.mono HB1.out.size)
  have HR : Hid (Parses ts r) := hr
  clear hpa hr HB1 hb2
  cases r with
  | error y =>
    obtain ⟨rfl, hy⟩ := ha
    have hy1 : (y != 0) = true := by simpa using hy
    simp only [exZ]
    clear hy
    go_wp2
    go_ret
    exact ⟨rfl, HB2.out.alloc HB2.out.size _⟩
  | ok q =>
    obtain ⟨x, l⟩ := q
    obtain ⟨kv, c1, rfl, hk, _, h0, hle⟩ := ha
    obtain ⟨kad, kcap, rfl⟩ := hk.shape
    obtain ⟨hwf, hxl⟩ := parses_len HR.out
    have m1 : ¬ (c1 : Int) < 1 := by omega
    have m2 : ¬ (ts.length : Int) < (c1 : Int) := by omega
    obtain ⟨w3, hw3⟩ : ∃ w3, w3 = w2.alloc (.cells #[.int .i64 x.kind, .int .i64 x.n, .string ⟨x.name.toArray⟩, .slice kad x.kids.length kcap] 25) := ⟨_, rfl⟩
    have hb3 : Below w2.heap.size w2 w3 := by rw [hw3]; exact (Below.refl _ _).alloc (Nat.le_refl _) _
    have hs3 : w3.heap.size = w2.heap.size + 1 := by rw [hw3]; simp
    have hv3 : Var4 w3 w2.heap.size (.int .i64 x.kind) (.int .i64 x.n) (.string ⟨x.name.toArray⟩) (.slice kad x.kids.length kcap) := by rw [hw3]; exact var4_new w2 _ _ _ _ _
    have hB3 : Below w.heap.size w w3 := HB2.out.trans (hb3.mono HB2.out.size)
    have hk3 := hk.under hb3 (Nat.le_refl _)
    have hpr := print_any (e := x) (.slice kad x.kids.length kcap) w3 _ hwf (HL.out.below hB3 (by omega)) (tab_below HTab.out hB3 hs) (by have := hB3.size; omega) hk3 (by omega)
    simp only [exV] at hpr
    have HPR := Lib.hid hpr
    have HK3 : Hid (KR w3 (fun b => w1.heap.size ≤ b) (.slice kad x.kids.length kcap) x.kids) := hk3
    have HB3 : Hid (Below w.heap.size w w3) := hB3
    have HV3 : Hid (Var4 w3 w2.heap.size (.int .i64 x.kind) (.int .i64 x.n) (.string ⟨x.name.toArray⟩) (.slice kad x.kids.length kcap)) := hv3
    have HWF : Hid (Wf x) := hwf
    have HS3 : Hid (w3.heap.size = w2.heap.size + 1) := hs3
    clear hk hwf hxl hb3 hv3 hB3 hk3 hpr h0 hle hs3 HB2 HR
    subst hw3
    simp only [exV]
    go_wp2_with fail
    refine HPR.out.mono ?_
    rintro e w4 ⟨rfl, hb4⟩
    have hB4 : Below w.heap.size w w4 := HB3.out.trans (hb4.mono HB3.out.size)
    have hk4 := HK3.out.under hb4 (Nat.le_refl _)
    have hv4 := HV3.out.keep (hb4.block _ (by rw [HS3.out]; omega))
    have hz4 : w2.heap.size < w4.heap.size := by have := hb4.size; have := HS3.out; omega
    have hto := rtokens_any ⟨(prE x).toArray⟩ w4
    have HTO := Lib.hid hto
    have HB4 : Hid (Below w.heap.size w w4) := hB4
    have HK4 : Hid (KR w4 (fun b => w1.heap.size ≤ b) (.slice kad x.kids.length kcap) x.kids) := hk4
    have HV4 : Hid (Var4 w4 w2.heap.size (.int .i64 x.kind) (.int .i64 x.n) (.string ⟨x.name.toArray⟩) (.slice kad x.kids.length kcap)) := hv4
    clear hb4 hB4 hk4 hv4 hto HPR HK3 HV3 HS3 HB3
    go_wp2_with fail
    refine HTO.out.mono ?_
    rintro e w5 ⟨⟨v, rfl, hown⟩, hb5⟩
    obtain ⟨vad, vcap, rfl⟩ := owns_shape hown
    have HB5 : Hid (Below w.heap.size w w5) := HB4.out.trans (hb5.mono HB4.out.size)
    by_cases h80 : 80 < (prE x).length
    · have hE : lineErr (prE x) = 4 := by unfold lineErr; rw [if_pos h80]
      simp only [hE]
      clear hown hb5 h80 hE HTO
      go_wp2
      go_ret
      exact ⟨rfl, HB5.out⟩
    · obtain ⟨hE, hLs⟩ := print_again HWF.out (by unfold prE at h80; omega)
      have hread := reads_of_owns hown
      change lineErr (prE x) = 0 at hE
      change lineList (prE x) = etoks x at hLs
      simp only [hE, hLs] at hread ⊢
      have hp2 := parse_any _ (etoks x) w5 hread (HL.out.below HB5.out (by omega))
      have hk5 := HK4.out.under hb5 (Nat.le_refl _)
      have hv5 := HV4.out.keep (hb5.block _ hz4)
      have hz5 : w2.heap.size < w5.heap.size := Nat.lt_of_lt_of_le hz4 hb5.size
      have HP2 := Lib.hid hp2
      have HK5 : Hid (KR w5 (fun b => w1.heap.size ≤ b) (.slice kad x.kids.length kcap) x.kids) := hk5
      have HV5 : Hid (Var4 w5 w2.heap.size (.int .i64 x.kind) (.int .i64 x.n) (.string ⟨x.name.toArray⟩) (.slice kad x.kids.length kcap)) := hv5
      clear hown hread hp2 hb5 hk5 hv5 HK4 HV4 HTO h80 hE hLs hz4
      go_wp2_with fail
      refine HP2.out.mono ?_
      rintro e w6 ⟨⟨r2, hr2, ha2⟩, hb6⟩
      have hB6 : Below w.heap.size w w6 := HB5.out.trans (hb6.mono HB5.out.size)
      rcases parses_again HWF.out with hA | hA
      · obtain rfl := hr2.same hA
        obtain ⟨kv2, c2, rfl, hk6, hd, _, hle2⟩ := ha2
        have hc2 : c2 = (etoks x).length := by
          have := congrArg List.length hd
          simp at this
          omega
        subst hc2
        obtain ⟨kad2, kcap2, rfl⟩ := hk6.shape
        obtain ⟨w7, hw7⟩ : ∃ w7, w7 = w6.alloc (.cells #[.int .i64 x.kind, .int .i64 x.n, .string ⟨x.name.toArray⟩, .slice kad2 x.kids.length kcap2] 25) := ⟨_, rfl⟩
        have hb7 : Below w6.heap.size w6 w7 := by rw [hw7]; exact (Below.refl _ _).alloc (Nat.le_refl _) _
        have hs7 : w7.heap.size = w6.heap.size + 1 := by rw [hw7]; simp
        have hv7 : Var4 w7 w6.heap.size (.int .i64 x.kind) (.int .i64 x.n) (.string ⟨x.name.toArray⟩) (.slice kad2 x.kids.length kcap2) := by rw [hw7]; exact var4_new w6 _ _ _ _ _
        have hz6 := hb6.size
        have h57 : Below w5.heap.size w5 w7 := hb6.trans (hb7.mono hz6)
        have hB7 : Below w.heap.size w w7 := hB6.trans (hb7.mono hB6.size)
        have HA : Hid (∀ q, Below w7.heap.size w7 q → Var4 q w2.heap.size (.int .i64 x.kind) (.int .i64 x.n) (.string ⟨x.name.toArray⟩) (.slice kad x.kids.length kcap) ∧ Var4 q w6.heap.size (.int .i64 x.kind) (.int .i64 x.n) (.string ⟨x.name.toArray⟩) (.slice kad2 x.kids.length kcap2) ∧ KR q (fun b => w1.heap.size ≤ b) (.slice kad x.kids.length kcap) x.kids ∧ KR q (fun b => w5.heap.size ≤ b) (.slice kad2 x.kids.length kcap2) x.kids ∧ KLaid q ∧ QReads q (.slice qad equs.length qcap) equs ∧ Below w.heap.size w q) := by
          intro q hq
          have h5q : Below w5.heap.size w5 q := h57.trans (hq.mono h57.size)
          have h6q : Below w6.heap.size w6 q := hb7.trans (hq.mono hb7.size)
          have hBq : Below w.heap.size w q := hB7.trans (hq.mono hB7.size)
          exact ⟨HV5.out.keep (h5q.block _ hz5), hv7.keep (hq.block _ (by omega)), HK5.out.under h5q (Nat.le_refl _), hk6.under h6q (Nat.le_refl _), HL.out.below hBq (by omega), HQ.out.below hBq (Nat.le_refl _), hBq⟩
        obtain ⟨nm, i, y, hV⟩ := pevalV_one (evalR equs x)
        obtain ⟨f1, f2, f3, f4, f5, f6, f7⟩ := HA.out w7 (Below.refl _ _)
        have hev7 := eval_any x _ _ equs w7 _ f5 f6 f3
        rw [hV] at hev7
        simp only [exV] at hev7
        have HEV7 := Lib.hid hev7
        obtain ⟨⟨z0, z1, z2, z3⟩, _⟩ := f1
        have hl27 : w2.heap.size < w6.heap.size := Nat.lt_of_lt_of_le hz5 hz6
        clear f2 f3 f4 f5 f6 f7 hev7 hr2 hA hd hle2 hk6 hb6 hB6 HP2 hb7 hs7 hv7 h57 hB7 HK5 HV5 hz6 hz5
        subst hw7
        simp only [exV]
        go_wp2_with fail
        refine HEV7.out.mono ?_
        rintro e w8 ⟨rfl, hb8⟩
        obtain ⟨w9, hw9⟩ : ∃ w9, w9 = w8.alloc (.cells #[.string ⟨nm.toArray⟩, .int .i64 i] 32) := ⟨_, rfl⟩
        have hb9 : Below w8.heap.size w8 w9 := by rw [hw9]; exact (Below.refl _ _).alloc (Nat.le_refl _) _
        have hs9 : w9.heap.size = w8.heap.size + 1 := by rw [hw9]; simp
        have hv9 : Var2 w9 w8.heap.size (.string ⟨nm.toArray⟩) (.int .i64 i) := by rw [hw9]; exact var2_of (heap_alloc_new _ _)
        have h79 := hb8.trans (hb9.mono hb8.size)
        have HC : Hid (∀ q, Below w9.heap.size w9 q → Var2 q w8.heap.size (.string ⟨nm.toArray⟩) (.int .i64 i) ∧ (Var4 q w2.heap.size (.int .i64 x.kind) (.int .i64 x.n) (.string ⟨x.name.toArray⟩) (.slice kad x.kids.length kcap) ∧ Var4 q w6.heap.size (.int .i64 x.kind) (.int .i64 x.n) (.string ⟨x.name.toArray⟩) (.slice kad2 x.kids.length kcap2) ∧ KR q (fun b => w1.heap.size ≤ b) (.slice kad x.kids.length kcap) x.kids ∧ KR q (fun b => w5.heap.size ≤ b) (.slice kad2 x.kids.length kcap2) x.kids ∧ KLaid q ∧ QReads q (.slice qad equs.length qcap) equs ∧ Below w.heap.size w q)) := by
          intro q hq
          exact ⟨hv9.keep (hq.block _ (by omega)), HA.out q (h79.trans (hq.mono h79.size))⟩
        obtain ⟨_, f1, f2, f3, f4, f5, f6, f7⟩ := HC.out w9 (Below.refl _ _)
        have hev9 := eval_any x _ _ equs w9 _ f5 f6 f4
        rw [hV] at hev9
        simp only [exV] at hev9
        have HEV9 := Lib.hid hev9
        obtain ⟨⟨z0, z1, z2, z3⟩, _⟩ := f2
        have hl68 : w6.heap.size < w8.heap.size := by have := hb8.size; simp at this; omega
        clear f1 f3 f4 f5 f6 f7 hev9 hb8 hb9 hs9 hv9 h79 HA HEV7 hV
        subst hw9
        go_wp2_with fail
        refine HEV9.out.mono ?_
        rintro e w10 ⟨rfl, hb10⟩
        obtain ⟨w11, hw11⟩ : ∃ w11, w11 = w10.alloc (.cells #[.string ⟨nm.toArray⟩, .int .i64 i] 32) := ⟨_, rfl⟩
        have hb11 : Below w10.heap.size w10 w11 := by rw [hw11]; exact (Below.refl _ _).alloc (Nat.le_refl _) _
        have hs11 : w11.heap.size = w10.heap.size + 1 := by rw [hw11]; simp
        have hv11 : Var2 w11 w10.heap.size (.string ⟨nm.toArray⟩) (.int .i64 i) := by rw [hw11]; exact var2_of (heap_alloc_new _ _)
        have h911 := hb10.trans (hb11.mono hb10.size)
        have HD : Hid (∀ q, Below w11.heap.size w11 q → Var2 q w10.heap.size (.string ⟨nm.toArray⟩) (.int .i64 i) ∧ Var2 q w8.heap.size (.string ⟨nm.toArray⟩) (.int .i64 i) ∧ Below w.heap.size w q) := by
          intro q hq
          have h := HC.out q (h911.trans (hq.mono h911.size))
          exact ⟨hv11.keep (hq.block _ (by omega)), h.1, h.2.2.2.2.2.2.2⟩
        obtain ⟨_, f1, f2, f3, f4, f5, f6, f7⟩ := HC.out w11 h911
        have hsm := same_any x _ _ w11 _ _ f3 f4
        simp only [exV] at hsm
        have HSM := Lib.hid hsm
        obtain ⟨⟨x0, x1, x2, x3⟩, _⟩ := f1
        obtain ⟨⟨z0, z1, z2, z3⟩, _⟩ := f2
        have hl810 : w8.heap.size < w10.heap.size := by have := hb10.size; simp at this; omega
        clear f3 f4 f5 f6 f7 hsm hb10 hb11 hs11 hv11 h911 HC HEV9
        subst hw11
        go_wp2_with fail
        refine HSM.out.mono ?_
        rintro e w12 ⟨rfl, hb12⟩
        obtain ⟨⟨⟨t0, t1⟩, _⟩, ⟨⟨u0, u1⟩, _⟩, hB12⟩ := HD.out w12 hb12
        have HB12 : Hid (Below w.heap.size w w12) := hB12
        clear hb12 hB12 HD HSM x0 x1 x2 x3 z0 z1 z2 z3
        go_wp2
        go_ret
        exact ⟨rfl, HB12.out⟩
      · obtain rfl := hr2.same hA
        obtain ⟨rfl, hy⟩ := ha2
        have HB6 : Hid (Below w.heap.size w w6) := hB6
        simp only [exZ]
        clear hr2 hA hy hb6 hB6 HP2
        go_wp2
        go_ret
        exact ⟨rfl, HB6.out.alloc HB6.out.size _⟩

end Go.Proofs.YtibenegbjpoclabDoor
