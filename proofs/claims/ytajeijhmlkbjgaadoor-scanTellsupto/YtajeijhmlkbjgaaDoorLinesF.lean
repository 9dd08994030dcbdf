/- The walk of ScanLines: the whole. -/
import Derived.Test.YtajeijhmlkbjgaaDoorLinesE
namespace Go.Proofs.YtajeijhmlkbjgaaDoor
open Go.RowKit

theorem slice_nil {W : World} {ad : Option Addr} {n cap : Nat} {bs : List UInt8} (h : BReads W (.slice ad n cap) bs) : ad = none → n = 0 := by
  intro e
  obtain ⟨ad', cap', e', _, hc⟩ := h
  injection e' with e1 e2 _
  by_cases h0 : 0 < bs.length
  · obtain ⟨b, o, e3, _⟩ := hc h0
    rw [← e1, e] at e3
    cases e3
  · omega

theorem wpList_app {w w' : World} {ops : Array Oper} {rest : List Oper} {o : Oper} {a : Act} {Q : Exit → Act → World → Prop} {v x v' : Value} (hgd : o.guard = none) (s y : Operand) (t : TypeId)
    (ho : o.op = .call { callee := .builtin .append, args := #[s, y], argTypes := #[t, t] }) (hs : a.eval s = v) (hx : a.eval y = x) (hr : (Builtin.append_ #[t, t] o.type #[v, x]).run Tryd.prog w = .ok v' w')
    (h : wpList Tryd.prog ops Q rest (a.put o.dst v') w') : wpList Tryd.prog ops Q (o :: rest) a w := by
  refine wpList_plain hgd fun K hK => ?_
  unfold Oper.wp
  simp [execOp, ho, resolve, invoke, builtin, hs, hx, hr, Result.andThen]
  exact hK _ _ h

theorem count_step {al : List UInt8} {k : Nat} (h : k < al.length) : (al.take (k + 1)).count 10 = (al.take k).count 10 + if al[k] = 10 then 1 else 0 := by
  rw [List.take_add_one, List.getElem?_eq_getElem h]
  simp only [Option.toList_some, List.count_append, List.count_singleton]
  by_cases e : al[k] = 10
  · simp [e]
  · simp [e]

theorem lcells_step (px py : List (Ln × Value)) (N k : Nat) (h : k < py.length) : lcells (px ++ shiftP N (py.take (k + 1))) = lcells (px ++ shiftP N (py.take k)) ++ [.int .i64 (py[k].1.pos + N), py[k].2] := by
  have e : shiftP N (py.take (k + 1)) = shiftP N (py.take k) ++ [((⟨py[k].1.pos + N, py[k].1.toks⟩ : Ln), py[k].2)] := by
    rw [List.take_add_one, List.getElem?_eq_getElem h]
    unfold shiftP
    rw [List.map_append]
    rfl
  rw [e, ← List.append_assoc, lcells_app]

theorem linesR_len (al : List UInt8) (h : al.length ≤ 1200) : (srcList al).length ≤ 1201 := by
  have ha : srcLines al = linesR 1 (splitNL al) := src_few h rfl
  have hl : (splitNL al).length ≤ 1201 := by rw [splitNL_len]; have : al.count 10 ≤ al.length := List.count_le_length; omega
  cases hA : linesR 1 (splitNL al) with
  | error e =>
    obtain ⟨e1, e2⟩ := e
    rw [hA] at ha
    rw [(src_no ha).2.2]
    simp
  | ok xs =>
    rw [hA] at ha
    rw [(src_ok ha).2.2]
    have := (linesR_pos _ _ _ hA).1
    omega

set_option maxHeartbeats 4000000 in
set_option maxRecDepth 100000 in
theorem scanLines_any (ad bd : Option Addr) (ca cb : Nat) (al bs : List UInt8) (w : World) (hG : Glob w) (ha : BReads w (.slice ad al.length ca) al) (hb : BReads w (.slice bd bs.length cb) bs) (hla : al.length ≤ 140737488351232) (hlb : bs.length ≤ 140737488351232) :
    Calls Tryd.prog 8 #[.slice ad al.length ca, .slice bd bs.length cb] w fun e w' => e = .returned (.bool true) ∧ Below w.heap.size w w' := by
  have hsz := hG.sz
  have hna := slice_nil ha
  have hnb := slice_nil hb
  by_cases hbig : al.length + bs.length + 1 ≤ 1200
  · have hbig' : ¬ (1200 : Int) < al.length + bs.length + 1 := by omega
    go_enter Tryd.func8, Tryd.ntmps8
    go_wp2_with fail
    refine (alive_any w hG).mono ?_
    rintro e w1 ⟨rfl, hb1⟩
    have hG1 : Glob w1 := hG.below hb1 hsz
    have ha1 := ha.below hb1 (Nat.le_refl _)
    have hb1' := hb.below hb1 (Nat.le_refl _)
    go_wp2_with fail
    refine (lines_any _ al w1 hG1 ha1).mono ?_
    rintro e w2 ⟨⟨xv, px, rfl, hpx, hlx⟩, hb2⟩
    generalize hE1 : srcErr al = E1 at *
    generalize hA1 : srcAt al = A1 at *
    have hB2 : Below w1.heap.size w1 (w2.alloc (.cells #[.int .i64 E1, .int .i64 A1] 57)) := hb2.alloc hb2.size _
    have hG2 : Glob (w2.alloc (.cells #[.int .i64 E1, .int .i64 A1] 57)) := hG1.below hB2 hG1.sz
    go_wp2_with fail
    refine (lines_any _ bs _ hG2 (hb1'.below hB2 (Nat.le_refl _))).mono ?_
    rintro e w3 ⟨⟨yv, py, rfl, hpy, hly⟩, hb3⟩
    generalize hE2 : srcErr bs = E2 at *
    generalize hA2 : srcAt bs = A2 at *
    have hB3 : Below (w2.alloc (.cells #[.int .i64 E1, .int .i64 A1] 57)).heap.size (w2.alloc (.cells #[.int .i64 E1, .int .i64 A1] 57)) (w3.alloc (.cells #[.int .i64 E2, .int .i64 A2] 57)) := hb3.alloc hb3.size _
    have hB13 : Below w1.heap.size w1 (w3.alloc (.cells #[.int .i64 E2, .int .i64 A2] 57)) := hB2.trans (hB3.mono hB2.size)
    obtain ⟨g1, c1, W1, g2, c2, W2, g3, c3, W3, r1, r2, r3, hBR, hBW⟩ := three_apps (w3.alloc (.cells #[.int .i64 E2, .int .i64 A2] 57)) ad bd ca cb al bs (ha1.below hB13 (Nat.le_refl _)) (hb1'.below hB13 (Nat.le_refl _)) hna hnb (by omega)
    have hGW : Glob W3 := (hG1.below hB13 hG1.sz).below hBW (by have := (hG1.below hB13 hG1.sz).sz; omega)
    have hlen : (al ++ 10 :: bs).length = al.length + 1 + bs.length := by simp; omega
    rw [show (w3.alloc (.cells #[.int .i64 E2, .int .i64 A2] 57)).heap.size = w3.heap.size + 1 by simp] at r1
    go_wp2_with (first | (at_builtin; refine wpList_app rfl (.tmp 37) (.tmp 38) 24 rfl rfl rfl r1 ?_) | (at_builtin; refine wpList_app rfl (.tmp 39) (.tmp 40) 24 rfl rfl rfl r2 ?_) | (at_builtin; refine wpList_app rfl (.tmp 41) (.tmp 42) 24 rfl rfl rfl r3 ?_))
    rw [← hlen]
    refine (lines_any _ (al ++ 10 :: bs) W3 hGW hBR).mono ?_
    rintro e w4 ⟨⟨zv, pz, rfl, hpz, hlz⟩, hb4⟩
    have hs2 := src_two al bs hbig
    generalize hE3 : srcErr (al ++ 10 :: bs) = E3 at *
    generalize hA3 : srcAt (al ++ 10 :: bs) = A3 at *
    have hB4 : Below W3.heap.size W3 (w4.alloc (.cells #[.int .i64 E3, .int .i64 A3] 57)) := hb4.alloc hb4.size _
    have hB34 : Below (w3.alloc (.cells #[.int .i64 E2, .int .i64 A2] 57)).heap.size (w3.alloc (.cells #[.int .i64 E2, .int .i64 A2] 57)) (w4.alloc (.cells #[.int .i64 E3, .int .i64 A3] 57)) := hBW.trans (hB4.mono hBW.size)
    have hB24 : Below (w2.alloc (.cells #[.int .i64 E1, .int .i64 A1] 57)).heap.size (w2.alloc (.cells #[.int .i64 E1, .int .i64 A1] 57)) (w4.alloc (.cells #[.int .i64 E3, .int .i64 A3] 57)) := hB3.trans (hB34.mono hB3.size)
    have hB14 : Below w1.heap.size w1 (w4.alloc (.cells #[.int .i64 E3, .int .i64 A3] 57)) := hB2.trans (hB24.mono hB2.size)
    have f10 : (w4.alloc (.cells #[.int .i64 E3, .int .i64 A3] 57)).cell? ⟨w2.heap.size, 0, none⟩ = some (.int .i64 E1) := by rw [hB24.cell (by simp)]; simp [go_sem]
    have f11 : (w4.alloc (.cells #[.int .i64 E3, .int .i64 A3] 57)).cell? ⟨w2.heap.size, 1, none⟩ = some (.int .i64 A1) := by rw [hB24.cell (by simp)]; simp [go_sem]
    have f20 : (w4.alloc (.cells #[.int .i64 E3, .int .i64 A3] 57)).cell? ⟨w3.heap.size, 0, none⟩ = some (.int .i64 E2) := by rw [hB34.cell (by simp)]; simp [go_sem]
    have f21 : (w4.alloc (.cells #[.int .i64 E3, .int .i64 A3] 57)).cell? ⟨w3.heap.size, 1, none⟩ = some (.int .i64 A2) := by rw [hB34.cell (by simp)]; simp [go_sem]
    have f30 : (w4.alloc (.cells #[.int .i64 E3, .int .i64 A3] 57)).cell? ⟨w4.heap.size, 0, none⟩ = some (.int .i64 E3) := by simp [go_sem]
    have f31 : (w4.alloc (.cells #[.int .i64 E3, .int .i64 A3] 57)).cell? ⟨w4.heap.size, 1, none⟩ = some (.int .i64 A3) := by simp [go_sem]
    have hra := (ha1.below hB14 (Nat.le_refl _))
    have HLX : Hid (LOwn (w4.alloc (.cells #[.int .i64 E3, .int .i64 A3] 57)) w1.heap.size xv px) := (hlx.below ((Below.refl _ _).alloc (Nat.le_refl _) _) (Nat.le_refl _)).below hB24 (Nat.le_refl _)
    have HLY : Hid (LOwn (w4.alloc (.cells #[.int .i64 E3, .int .i64 A3] 57)) (w2.alloc (.cells #[.int .i64 E1, .int .i64 A1] 57)).heap.size yv py) := (hly.below ((Below.refl _ _).alloc (Nat.le_refl _) _) (Nat.le_refl _)).below hB34 (Nat.le_refl _)
    have HLZ : Hid (LOwn (w4.alloc (.cells #[.int .i64 E3, .int .i64 A3] 57)) W3.heap.size zv pz) := hlz.below ((Below.refl _ _).alloc (Nat.le_refl _) _) (Nat.le_refl _)
    have HB : Hid (Below w.heap.size w (w4.alloc (.cells #[.int .i64 E3, .int .i64 A3] 57))) := hb1.trans (hB14.mono hb1.size)
    have HS2 : Hid ((E1 ≠ 0 → E3 = E1 ∧ A3 = A1) ∧ (E1 = 0 → E2 ≠ 0 → E3 = E2 ∧ A3 = A2 + (al.count 10 + 1 : Nat) ∧ 0 < A2 ∧ A2 ≤ 1201) ∧ (E1 = 0 → E2 = 0 → E3 = 0 ∧ srcList (al ++ 10 :: bs) = srcList al ++ shiftL (al.count 10 + 1) (srcList bs) ∧ (srcList bs).length ≤ 1201 ∧ ∀ l, l ∈ srcList bs → 1 ≤ l.pos ∧ l.pos ≤ 1201)) := by rw [hE1, hE2, hA1, hA2] at hs2; exact hs2
    have HPX : Hid (px.map (·.1) = srcList al ∧ py.map (·.1) = srcList bs ∧ pz.map (·.1) = srcList (al ++ 10 :: bs)) := ⟨hpx, hpy, hpz⟩
    clear hs2 hE1 hE2 hE3 hA1 hA2 hA3 hpx hpy hpz hlx hly hlz hb1 hb2 hb3 hb4 hB2 hB3 hB4 hB13 hB14 hB24 hB34 hBW hBR hG hG1 hG2 hGW ha hb ha1 hb1' r1 r2 r3
    generalize (w2.alloc (.cells #[.int .i64 E1, .int .i64 A1] 57)).heap.size = base2 at *
    go_upto_region 9 with fail
    generalize hw5 : w4.alloc (.cells #[.int .i64 E3, .int .i64 A3] 57) = w5 at *
    clear hw5 hlen
    obtain ⟨_, _, era, _, hrow⟩ := hra
    injection era with era1 era2 era3
    subst era1 era3
    go_wp2
    go_loop [11, 49] (fun n i => ∃ k : Nat, k ≤ al.length ∧ i = .int .i64 k ∧ n = .int .i64 (((al.take k).count 10 + 1 : Nat) : Int)) (fun _ i => al.length - (intOf i).toNat)
    case atStart => exact ⟨0, Nat.zero_le _, rfl, by simp⟩
    case round =>
      obtain ⟨k, hk, rfl, rfl⟩ := hrel
      have hcl : (al.take k).count 10 ≤ al.length := Nat.le_trans List.count_le_length (by simp; omega)
      by_cases hlt : k < al.length
      · have hk1 : (k : Int) < al.length := by omega
        obtain ⟨b, o, rfl, _, hcell⟩ := hrow (by omega)
        have hc := hcell k hlt
        have HS : Hid ((al.take (k + 1)).count 10 = (al.take k).count 10 + if al[k] = 10 then 1 else 0) := count_step hlt
        clear hcell hrow
        by_cases e : al[k] = 10
        · rw [if_pos e] at HS
          have e' : (((al[k].toNat : Nat) : Int) == 10) = true := by rw [e]; rfl
          generalize (al.take k).count 10 = cn at *
          go_wp2
          exact ⟨⟨k + 1, by omega, by go_num, by rw [HS.out]; go_num⟩, by simp [intOf]; omega⟩
        · rw [if_neg e] at HS
          have e' : (((al[k].toNat : Nat) : Int) == 10) = false := by
            rw [beq_eq_false_iff_ne]
            intro h
            apply e
            apply UInt8.toNat_inj.1
            have : al[k].toNat = 10 := by omega
            rw [this]; rfl
          generalize (al.take k).count 10 = cn at *
          go_wp2
          exact ⟨⟨k + 1, by omega, by go_num, by rw [HS.out]⟩, by simp [intOf]; omega⟩
      · have hk1 : ¬ (k : Int) < al.length := by omega
        have hke : k = al.length := by omega
        subst hke
        rw [List.take_length]
        rw [List.take_length] at hcl
        have hN : al.count 10 + 1 ≤ 1201 := by omega
        generalize al.count 10 + 1 = N at *
        clear hrow hk
        by_cases he1 : E1 = 0
        · by_cases he2 : E2 = 0
          · obtain ⟨rfl, hsl, hyl, hyp⟩ := HS2.out.2.2 he1 he2
            have he1' : (E1 == 0) = true := by simpa using he1
            have he2' : (E2 == 0) = true := by simpa using he2
            obtain ⟨i64, hi, hz0, hz1, hz2⟩ := info_parts info64
            obtain ⟨xd, xc, exv, hxm, hxn, hxs⟩ := lown_form HLX.out
            obtain ⟨yd, yc, eyv, hym, hyn, hys⟩ := lown_form HLY.out
            have hpyl : py.length ≤ 1201 := by rw [← HPX.out.2.1, List.length_map] at hyl; exact hyl
            have hpxl : px.length ≤ 1201 := by
              have h1 := (linesR_len al (by omega))
              rw [← HPX.out.1, List.length_map] at h1
              exact h1
            have hown0 : (w5.alloc (.cells #[] 64)).ownsRow w5.heap.size 64 2 (.slice (some ⟨w5.heap.size, 0, none⟩) 0 0) 0 [] := ⟨by simp, Or.inr ⟨w5.heap.size, 0, #[], rfl, Nat.le_refl _, heap_alloc_new w5 _, Nat.le_refl _, by decide, by simp, by simp⟩⟩
            have hA5 : Below w5.heap.size w5 (w5.alloc (.cells #[] 64)) := (Below.refl _ _).alloc (Nat.le_refl _) _
            obtain ⟨g6, c6, W6, r4, o6, gr6⟩ := append_any 55 55 64 i64 _ 2 32 Tryd.underlying55 hi hz0 hz1 hz2 rfl (by decide) (w5.alloc (.cells #[] 64)) w5.heap.size w5.heap.size 0 0 [] hown0 xd px.length xc (lcells px) (lcells_length px) (fun h0 => by
              obtain ⟨gx, e1, e2, e3⟩ := hxs h0
              refine ⟨_, e1, fun j u hj => ?_⟩
              have := e3 j u hj
              have hadd : (⟨gx, 0, none⟩ : Addr).add j = ⟨gx, 0 + j, none⟩ := by unfold Addr.add; split <;> simp_all
              rw [hadd] at this ⊢
              rw [hA5.cell (by exact e2)]
              exact this) hxn (lcells_one HLX.out) (by unfold maxLen; omega) (by omega) (by simp)
            have hB6 : Below w5.heap.size w5 W6 := hA5.grown gr6 (by simp) (by intro k hk; cases hk; exact Nat.le_refl _)
            rw [Nat.zero_add, List.nil_append] at o6
            rw [Nat.zero_add] at r4
            subst exv eyv
            have HXS : Hid (∀ p, p ∈ px → TReads w5 p.2 p.1.toks) := fun p hp => reads_of_owns (HLX.out.toks p hp)
            have HYS : Hid (∀ p, p ∈ py → TReads w5 p.2 p.1.toks) := fun p hp => reads_of_owns (HLY.out.toks p hp)
            have HYF : Hid (∀ p, p ∈ py → ∃ td tn tc, p.2 = .slice td tn tc) := by
              intro p hp
              rcases (HLY.out.toks p hp).2 with ⟨e, _⟩ | ⟨g, cap, cur, e, _⟩
              · exact ⟨_, _, _, e⟩
              · exact ⟨_, _, _, e⟩
            have HYC : Hid (∀ k (h : k < py.length), ∃ gy, yd = some ⟨gy, 0, none⟩ ∧ gy < w5.heap.size ∧ w5.cell? ⟨gy, 0 + k * 2, none⟩ = some (.int .i64 py[k].1.pos) ∧ w5.cell? ⟨gy, 0 + k * 2 + 1, none⟩ = some py[k].2) := by
              intro k hk
              obtain ⟨gy, e1, e2, e3⟩ := hys (by omega)
              have ha := lcells_at py k hk
              have hadd : ∀ j, (⟨gy, 0, none⟩ : Addr).add j = ⟨gy, 0 + j, none⟩ := fun j => by unfold Addr.add; split <;> simp_all
              have x0 := e3 _ _ ha.1
              have x1 := e3 _ _ ha.2
              rw [hadd] at x0 x1
              exact ⟨gy, e1, e2, x0, x1⟩
            have HYP : Hid (∀ k (h : k < py.length), 1 ≤ py[k].1.pos ∧ py[k].1.pos ≤ 1201) := by
              intro k hk
              apply hyp
              rw [← HPX.out.2.1]
              exact List.mem_map.2 ⟨py[k], List.getElem_mem hk, rfl⟩
            have HZR : Hid (LReads w5 zv (px.map (·.1) ++ shiftL N (py.map (·.1)))) := by
              have := reads_of_lown HLZ.out
              rw [HPX.out.2.2, hsl, ← HPX.out.1, ← HPX.out.2.1] at this
              exact this
            have HB6 : Hid (Below w5.heap.size w5 W6) := hB6
            have HO6 : Hid (W6.ownsRow w5.heap.size 64 2 (.slice (some ⟨g6, 0, none⟩) px.length c6) px.length (lcells px)) := o6
            have hyn' : (py.length : Int) ≤ 1201 := by omega
            clear hown0 hA5 hxs hys hxn hyn hxm hym hyp hsl hyl HPX HLX HLY HLZ HS2 gr6 hB6 o6
            go_wp2_with (at_builtin; refine wpList_app rfl (.tmp 86) (.tmp 87) 55 rfl rfl rfl r4 ?_)
            clear r4
            go_loopw [14, 91] (fun v i wr => ∃ (k g c : Nat), k ≤ py.length ∧ i = .int .i64 k ∧ v = .slice (some ⟨g, 0, none⟩) (px.length + k) c ∧ Hid (wr.ownsRow w5.heap.size 64 2 (.slice (some ⟨g, 0, none⟩) (px.length + k) c) (px.length + k) (lcells (px ++ shiftP N (py.take k)))) ∧ Below w5.heap.size w5 wr) (fun _ i _ => py.length - (intOf i).toNat)
            case atStart => exact ⟨0, g6, c6, Nat.zero_le _, rfl, rfl, (by unfold Hid; simpa [shiftP] using HO6.out), HB6.out⟩
            case round =>
              obtain ⟨k, g, c, hk, rfl, rfl, HO, hBr⟩ := hrel
              have hw4 : w4.heap.size < w5.heap.size := World.block_lt_of_cell? w5 _ f30
              have f30' : wr.cell? ⟨w4.heap.size, 0, none⟩ = some (.int .i64 0) := by rw [hBr.cell (by exact hw4)]; exact f30
              have hszr := hBr.size
              clear f10 f11 f20 f21 f30 f31
              by_cases hlt : k < py.length
              · have hk1 : (k : Int) < py.length := by omega
                obtain ⟨gy, rfl, hgl, y0, y1⟩ := HYC.out k hlt
                obtain ⟨q1, q2⟩ := HYP.out k hlt
                obtain ⟨td, tn, tc, etv⟩ := HYF.out py[k] (List.getElem_mem hlt)
                have HTK : Hid (lcells (px ++ shiftP N (py.take (k + 1))) = lcells (px ++ shiftP N (py.take k)) ++ [.int .i64 (py[k].1.pos + N), .slice td tn tc]) := by
                  unfold Hid
                  rw [← etv]
                  exact lcells_step px py N k hlt
                rw [etv] at y1
                rw [← hBr.cell (by exact hgl)] at y0 y1
                rw [Nat.zero_add] at y0 y1
                have HBr : Hid (Below w5.heap.size w5 wr) := hBr
                have hrow := HO.out
                clear etv hBr
                generalize py[k].1.pos = p at *
                go_wp2_with (first
                  | (at_builtin; refine wpList_append_own _ rfl _ _ 55 rfl w5.heap.size 64 i64 _ 2 32 Tryd.underlying55 hi hz0 hz1 hz2 rfl (by decide) _ _ _ rfl ((hrow.alloc _).alloc _) ⟨wr.heap.size + 1, 0, none⟩ 1 1 [.int .i64 (p + N), .slice td tn tc] rfl rfl ?c1 ?c2 ?c3 ?c4 ?c5 ?_)
                  | go_in)
                case c1 =>
                  intro j u hj
                  match j, hj with
                  | 0, hj => simp at hj; subst hj; simp [go_sem, Addr.add]
                  | 1, hj => simp at hj; subst hj; simp [go_sem, Addr.add]
                case c2 => intro u hu; simp at hu; rcases hu with rfl | rfl <;> rfl
                case c3 => unfold maxLen; omega
                case c4 => omega
                case c5 => simp; omega
                · intro v' w7 hown7 hgrow _
                  have hgb : w5.heap.size ≤ g := (hrow.lt g rfl).1
                  have HB7 : Hid (Below w5.heap.size w5 w7) := ((HBr.out.alloc hszr _).alloc (by simp; omega) _).grown hgrow (by simp; omega) (by intro j hj; simp [Value.ownBlock] at hj; omega)
                  rw [← HTK.out] at hown7
                  have hform : ∃ g' c', v' = .slice (some ⟨g', 0, none⟩) (px.length + k + 1) c' := by
                    rcases hown7.2 with ⟨_, h0⟩ | ⟨g', c', _, e, _⟩
                    · omega
                    · exact ⟨g', c', e⟩
                  obtain ⟨g', c', rfl⟩ := hform
                  have HO7 : Hid (w7.ownsRow w5.heap.size 64 2 (.slice (some ⟨g', 0, none⟩) (px.length + k + 1) c') (px.length + k + 1) (lcells (px ++ shiftP N (py.take (k + 1))))) := hown7
                  clear hown7 hgrow hrow HO HBr HTK
                  go_wp2
                  go_roundw
                  case rel => exact ⟨k + 1, g', c', by omega, by go_num, by rw [Nat.add_assoc], by rw [← Nat.add_assoc]; exact HO7.out, HB7.out⟩
                  case measure => simp [intOf]; omega
              · have hk1 : ¬ (k : Int) < py.length := by omega
                have hke : k = py.length := by omega
                subst hke
                have hz7 : LReads wr zv (px.map (·.1) ++ shiftL N (py.map (·.1))) := HZR.out.below hBr (Nat.le_refl _)
                have hw7 : LReads wr (.slice (some ⟨g, 0, none⟩) (px.length + py.length) c) (px.map (·.1) ++ shiftL N (py.map (·.1))) := by
                  have ho := HO.out
                  rw [List.take_length] at ho
                  have hln : px.length + py.length = (px ++ shiftP N py).length := by simp [shiftP]
                  have hr := reads_of_row (ps := px ++ shiftP N py) (by rw [← hln]; exact ho) (fun p hp => by
                    rcases List.mem_append.1 hp with hp | hp
                    · exact (HXS.out p hp).below hBr (Nat.le_refl _)
                    · simp only [shiftP, List.mem_map] at hp
                      obtain ⟨q, hq, rfl⟩ := hp
                      exact (HYS.out q hq).below hBr (Nat.le_refl _))
                  rw [List.map_append, shiftP_fst] at hr
                  exact hr
                have hst := sameLines_true zv _ _ wr hz7 hw7
                have HBr : Hid (Below w.heap.size w wr) := HB.out.trans (hBr.mono HB.out.size)
                clear hz7 hw7 HZR HXS HYS HYC HYP HYF HO hBr
                go_wp2_with fail
                refine hst.mono ?_
                rintro e w8 ⟨rfl, hb8⟩
                have HB8 : Hid (Below w.heap.size w w8) := HBr.out.trans (hb8.mono HBr.out.size)
                clear hst hb8
                go_wp2
                go_ret
                exact ⟨rfl, HB8.out⟩
          · obtain ⟨rfl, rfl, hp1, hp2⟩ := HS2.out.2.1 he1 he2
            have he1' : (E1 == 0) = true := by simpa using he1
            have he2' : (E3 == 0) = false := by simpa using he2
            clear HS2 HPX HLX HLY HLZ
            go_wp2
            go_ret
            exact ⟨rfl, HB.out⟩
        · obtain ⟨rfl, rfl⟩ := HS2.out.1 he1
          have he1' : (E3 == 0) = false := by simpa using he1
          clear HS2 HPX HLX HLY HLZ
          go_wp2
          go_ret
          exact ⟨rfl, HB.out⟩
  · have hbig' : (1200 : Int) < al.length + bs.length + 1 := by omega
    go_enter Tryd.func8, Tryd.ntmps8
    go_wp2_with fail
    refine (alive_any w hG).mono ?_
    rintro e w1 ⟨rfl, hb1⟩
    go_wp2
    go_ret
    exact ⟨rfl, hb1⟩

end Go.Proofs.YtajeijhmlkbjgaaDoor
