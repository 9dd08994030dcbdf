/- asm: a pool begun; lines built. -/
import Derived.Test.YtagkmgdjkailkaaGreatDoorPut36
import Derived.Test.YtagkmgdjkailkaaGreatDoorPut28
namespace Go.Proofs.YtagkmgdjkailkaaGreatDoor
open Go.RowKit

theorem newPool_any (w : World) : Calls Tryz.prog 24 #[] w fun r w' => (∃ g mb, r = .returned (.pointer (some ⟨g, 0, none⟩)) ∧ w.heap.size ≤ g ∧ w'.heap[g]? = some (.cells #[.int .i64 0, .slice none 0 0, .map (some mb)] 116 (0, 0))) ∧ Below w.heap.size w w' := by
  have hmm : ∀ w, (Instr.makeMap 113 none).run Tryz.prog w = .ok (.map (some w.heap.size)) (w.alloc (.map #[] 0)) := fun w => rfl
  go_enter Tryz.func24, Tryz.ntmps24
  go_wp2_with fail
  go_returns
  exact ⟨⟨w.heap.size + 1, w.heap.size, rfl, by omega, new_at _ _ (by simp)⟩, by go_grown⟩

theorem Fr.low {g B : Nat} {w w' : World} (h : Fr g B w w') (hg : g ≤ B) : Below g w w' := ⟨h.os, h.tape, h.output, h.size, fun i hi => h.block i (by omega) (by omega)⟩

theorem UR.line {w : World} {B gu : Nat} {e : Value} {ln : Int} {nv lm pp pv rv : Value} {its : List It} (h : UR w B gu e ln nv lm pp pv rv its) (p : Int) : UR (w.setCell ⟨gu, 1, none⟩ (.int .i64 p)) B gu e p nv lm pp pv rv its := by
  obtain ⟨iv, l, h1, h2, h3, h4⟩ := h.its
  exact ⟨h.lt, by simpa using h.le, iv, l, blk_set h1, row_set h2 h.lt, h3, fun p hp => (h4 p hp).fr h1 (fun i _ hne => Below.heap_setCell _ _ _ _ hne)⟩

/-- The items of lines of .long. -/
def dataI (l : List (Int × Int)) : List It := l.map fun a => numI a.1 4 [] (wrap32 a.2)

/-- A block that holds no byte is changed. -/
theorem OBytes.set {w : World} {q i : Nat} {c : Array Value} {t : TypeId} {v x : Value} {l : List UInt8} (ho : OBytes w x l) (h : w.heap[q]? = some (.cells c t (0, 0))) (hc : ∀ (j : Nat) (n : Int), c[j]? ≠ some (Value.int .u8 n)) : OBytes (w.setCell ⟨q, i, none⟩ v) x l := by
  obtain ⟨ad, cap, rfl, hm, hl⟩ := ho
  refine ⟨ad, cap, rfl, hm, fun h0 => ?_⟩
  obtain ⟨b, o, rfl, hb, hcell⟩ := hl h0
  have hne : b ≠ q := by
    intro e
    subst e
    have := hcell 0 h0
    simp only [World.cell?, h] at this
    exact hc (o + 0) _ (by simpa using this)
  refine ⟨b, o, rfl, by simpa using hb, fun j hj => ?_⟩
  have hk : (w.setCell ⟨q, i, none⟩ v).heap[b]? = w.heap[b]? := Below.heap_setCell _ _ _ _ hne
  have := hcell j hj
  simp only [World.cell?, hk] at this ⊢
  exact this

/-- What write answers of such items, as its contract will say. -/
def WritesTo (its : List It) (code : List UInt8) : Prop := ∀ (gu B gp : Nat) (lm pp : Value) (ln : Int) (W : World), UR W B gu (.slice none 0 0) ln (.slice none 0 0) lm pp (.slice (some ⟨gp, 0, none⟩) (its.length + 1) (its.length + 1)) (.slice none 0 0) its → PlR W gp its.length (its.length + 1) (tellU 0 its) →
  Calls Tryz.prog 28 #[.pointer (some ⟨gu, 0, none⟩)] W fun r w' => (∃ ca cl cc, r = .returned (.tuple #[.agg #[.slice ca cl cc, .slice none 0 0, .slice none 0 0], .agg #[.int .i64 0, .int .i64 0]]) ∧ OBytes w' (.slice ca cl cc) code) ∧ Below W.heap.size W w'

theorem dataI_laid (l : List (Int × Int)) : ∀ x, x ∈ dataI l → Laid1 x := by
  intro x hx
  obtain ⟨a, _, rfl⟩ := List.mem_map.1 hx
  exact ⟨by show (0 : Int) ≤ 4; decide, by show (4 : Int) ≤ 6; decide, by show (1 : Int) ≤ 1; decide, by show (1 : Int) ≤ 16; decide⟩
theorem dataI_last (l : List (Int × Int)) : (tellU 0 (dataI l)).getD (dataI l).length 0 = 4 * l.length := by
  have e : dataI l = longI (l.map fun a => (a.1, wrap32 a.2)) := by simp [dataI, longI]
  have := tell_long (l.map fun a => (a.1, wrap32 a.2)) 0 l.length (by omega) (by simp)
  rw [e]
  simp only [longI, List.length_map] at this ⊢
  simpa using this

set_option maxHeartbeats 4000000 in
set_option maxRecDepth 100000 in
/-- Lines of .long built; lengthen's and write's contracts handed in. -/
theorem build_data (v : Value) (l : List (Int × Int)) (code : List UInt8) (w : World) (h : LRd w v (l.map fun a => (a.1, [tkLong, tkNum a.2]))) (hL : Xp.KLaid w) (hG : Sc.Glob w) (hn : l.length ≤ 1000) (hNL : ∀ gu B e nv lm pp rv ln, NoLong gu B e nv lm pp rv ln (dataI l)) (hW : WritesTo (dataI l) code) :
    Calls Tryz.prog 15 #[v, .slice none 0 0] w fun r w' => (∃ ca cl cc, r = .returned (.tuple #[.agg #[.slice ca cl cc, .slice none 0 0, .slice none 0 0], .agg #[.int .i64 0, .int .i64 0]]) ∧ OBytes w' (.slice ca cl cc) code) ∧ Below w.heap.size w w' := by
  have HNL := Lib.hid hNL
  have HWR := Lib.hid hW
  clear hNL hW
  have hmm : ∀ w, (Instr.makeMap 74 none).run Tryz.prog w = .ok (.map (some w.heap.size)) (w.alloc (.map #[] 0)) := fun w => rfl
  obtain ⟨va, vc, rfl, _⟩ := id h
  have HV := Lib.hid h
  have HL := Lib.hid hL
  have HG := Lib.hid hG
  clear h hL hG
  simp only [List.length_map] at *
  go_enter Tryz.func15, Tryz.ntmps15
  go_wp2_with fail
  refine (newPool_any _).mono ?_
  rintro e w1 ⟨⟨gp, mb, rfl, hgp, hpl⟩, hb1⟩
  have hB1 : Below w.heap.size w w1 := Below.trans (by go_grown) (hb1.mono (by go_size))
  have x0 : w1.heap[w.heap.size]? = some (.cells #[.slice none 0 0, .slice none 0 0, .slice none 0 0] 28 (0, 0)) := by
    rw [hb1.block _ (by go_size), old2 _ _ (by go_size), old2 _ _ (by go_size)]
    exact new_at _ _ rfl
  have x1 : w1.heap[w.heap.size + 1]? = some (.cells #[.int .i64 0, .int .i64 0] 31 (0, 0)) := by
    rw [hb1.block _ (by go_size), old2 _ _ (by go_size)]
    exact new_at _ _ (by go_size)
  have hz1 : w.heap.size + 3 ≤ w1.heap.size := Nat.le_trans (by simp) hb1.size
  have HB1 := Lib.hid hB1
  have X0 := Lib.hid x0
  have X1 := Lib.hid x1
  have HPL := Lib.hid hpl
  clear hb1 hB1 x0 x1 hpl
  go_wp2_with fail
  have hU0 : UR (w1.alloc (.cells #[.slice none 0 0, .int .i64 0, .slice none 0 0, .map (some (w.heap.size + 1 + 1)), .slice none 0 0, .pointer (some ⟨gp, 0, none⟩), .slice none 0 0, .slice none 0 0] 79)) (w1.heap.size + 1) w1.heap.size (.slice none 0 0) 0 (.slice none 0 0) (.map (some (w.heap.size + 1 + 1))) (.pointer (some ⟨gp, 0, none⟩)) (.slice none 0 0) (.slice none 0 0) [] := ⟨by omega, by simp, .slice none 0 0, [], new_at _ _ rfl, World.ownsRow_nil _ _ _ _, rfl, fun p hp => by simp at hp⟩
  have hbA : Below w1.heap.size w1 (w1.alloc (.cells #[.slice none 0 0, .int .i64 0, .slice none 0 0, .map (some (w.heap.size + 1 + 1)), .slice none 0 0, .pointer (some ⟨gp, 0, none⟩), .slice none 0 0, .slice none 0 0] 79)) := oalloc _ _
  have hzA : (w1.alloc (.cells #[.slice none 0 0, .int .i64 0, .slice none 0 0, .map (some (w.heap.size + 1 + 1)), .slice none 0 0, .pointer (some ⟨gp, 0, none⟩), .slice none 0 0, .slice none 0 0] 79)).heap.size = w1.heap.size + 1 := by simp
  generalize w1.alloc (.cells #[.slice none 0 0, .int .i64 0, .slice none 0 0, .map (some (w.heap.size + 1 + 1)), .slice none 0 0, .pointer (some ⟨gp, 0, none⟩), .slice none 0 0, .slice none 0 0] 79) = W1 at *
  have HU0 := Lib.hid hU0
  have HBA := Lib.hid hbA
  have HZA := Lib.hid hzA
  clear hU0 hbA hzA
  go_loopw [17] (fun iv wr => ∃ (k : Nat) (ln : Int), k ≤ l.length ∧ iv = .int .i64 k ∧ Hid (UR wr (w1.heap.size + 1) w1.heap.size (.slice none 0 0) ln (.slice none 0 0) (.map (some (w.heap.size + 1 + 1))) (.pointer (some ⟨gp, 0, none⟩)) (.slice none 0 0) (.slice none 0 0) (dataI (l.take k))) ∧ Hid (Fr w1.heap.size (w1.heap.size + 1) W1 wr)) (fun iv _ => l.length - (intOf iv).toNat)
  case atStart => exact ⟨0, 0, Nat.zero_le _, rfl, HU0, Fr.refl _ _ _⟩
  case round =>
    obtain ⟨k, ln, hk, rfl, HU, HF⟩ := hrel
    have hBw : Below w.heap.size w wr := (HB1.out.trans (HBA.out.mono HB1.out.size)).trans ((HF.out.low (Nat.le_succ _)).mono HB1.out.size)
    by_cases hlt : k < l.length
    · have hk' : (k : Int) < l.length := by omega
      obtain ⟨va', vc', ev, _, hcl⟩ := id HV.out
      simp only [List.length_map] at ev hcl
      injection ev with e1 _ e3
      subst e1 e3
      obtain ⟨b, o, rfl, hbl, hcell⟩ := hcl (by omega)
      obtain ⟨td, tn, tc, r0, r1, r2⟩ := hcell k hlt
      simp only [List.getElem_map] at r1 r2
      obtain ⟨a, ha⟩ : ∃ a, l[k]'hlt = a := ⟨_, rfl⟩
      rw [ha] at r1 r2
      have HT : Hid (dataI (l.take (k + 1)) = dataI (l.take k) ++ [numI a.1 4 [] (wrap32 a.2)]) := by
        unfold Hid
        rw [List.take_succ_eq_append_getElem hlt, ha]
        simp [dataI]
      obtain ⟨p, n⟩ := a
      simp only at r1 r2 HT
      clear ha hcell hcl
      have hgu : w1.heap.size < wr.heap.size := Nat.lt_of_lt_of_le (Nat.lt_succ_self _) HU.out.le
      have c1 : wr.cell? ⟨w1.heap.size, 1, none⟩ = some (.int .i64 ln) := by obtain ⟨iv, ll, k1, _⟩ := HU.out.its; exact blk_cell k1 rfl
      have f1 : wr.frozen? ⟨w1.heap.size, 1, none⟩ = false := by obtain ⟨iv, ll, k1, _⟩ := HU.out.its; exact blk_froz k1
      have hz0 := HB1.out.size
      have HRL : Hid (Calls Tryz.prog 25 #[.pointer (some ⟨w1.heap.size, 0, none⟩), .slice td tn tc] ((wr.setCell ⟨w1.heap.size, 1, none⟩ (.int .i64 p)).alloc (.cells #[.slice td tn tc, .int .i64 p] 83)) fun r w' => r = .returned (.int .i64 0) ∧ UR w' (w1.heap.size + 1) w1.heap.size (.slice none 0 0) p (.slice none 0 0) (.map (some (w.heap.size + 1 + 1))) (.pointer (some ⟨gp, 0, none⟩)) (.slice none 0 0) (.slice none 0 0) (dataI (l.take (k + 1))) ∧ Fr w1.heap.size (w1.heap.size + 1) W1 w') := by
        have hB2 : Below w.heap.size w ((wr.setCell ⟨w1.heap.size, 1, none⟩ (.int .i64 p)).alloc (.cells #[.slice td tn tc, .int .i64 p] 83)) := (hBw.setCell hz0 _).alloc (by simpa using hBw.size) _
        have hU2 := (HU.out.line p).go (oalloc (wr.setCell ⟨w1.heap.size, 1, none⟩ (.int .i64 p)) (.cells #[.slice td tn tc, .int .i64 p] 83))
        have hF2 : Fr w1.heap.size (w1.heap.size + 1) W1 ((wr.setCell ⟨w1.heap.size, 1, none⟩ (.int .i64 p)).alloc (.cells #[.slice td tn tc, .int .i64 p] 83)) := (HF.out.trans (Fr.of (gset _ _ _ _) HU.out.le)).trans (Fr.below ((oalloc _ _).mono (by simpa using HU.out.le)))
        refine (read_long w1.heap.size (w1.heap.size + 1) _ _ _ _ _ p _ (.slice td tn tc) n _ hU2 (r2.below hB2 (Nat.le_refl _)) (KL.below HL.out hB2) (HG.out.below hB2 HG.out.sz) (by simp [dataI]; omega)).mono ?_
        rintro r w' ⟨rfl, h1, h2, _⟩
        exact ⟨rfl, by rw [HT.out]; exact h1, hF2.trans h2⟩
      replace r0 := (hBw.cell (by show b < w.heap.size; exact hbl)).trans r0
      replace r1 := (hBw.cell (by show b < w.heap.size; exact hbl)).trans r1
      have hbr : b < wr.heap.size := Nat.lt_of_lt_of_le hbl hBw.size
      have hbn : b ≠ w1.heap.size := by omega
      clear r2 hBw
      go_wp2_with (go_at_call 25; refine HRL.out.mono ?_; rintro e' w3 ⟨rfl, hu3, hf3⟩; have HU3 := Lib.hid hu3; have HF3 := Lib.hid hf3; clear hu3 hf3)
      exact ⟨⟨k + 1, p, by omega, by go_num, HU3, HF3⟩, by simp [intOf]; omega⟩
    · obtain rfl : k = l.length := by omega
      have hk' : ¬ ((l.length : Nat) : Int) < l.length := by omega
      have hU := HU.out
      rw [List.take_length] at hU
      obtain ⟨iv9, l9, k1, _⟩ := id hU.its
      have hplw : wr.heap[gp]? = some (.cells #[.int .i64 0, .slice none 0 0, .map (some mb)] 116 (0, 0)) := by
        rw [(HF.out.low (Nat.le_succ _)).block gp (blk_lt HPL.out), HBA.out.block gp (blk_lt HPL.out)]
        exact HPL.out
      have HEP := Lib.hid (endPool_none w1.heap.size gp none 0 wr (blk_cell k1 rfl) (blk_cell hplw rfl))
      have hlen : (dataI l).length = l.length := by simp [dataI]
      have HLY := Lib.hid (lay_any w1.heap.size (w1.heap.size + 1) _ _ _ _ _ _ ⟨_, _, _, rfl⟩ ln _ wr hU (by omega) (dataI_laid l) (HNL.out _ _ _ _ _ _ _ _) (by rw [dataI_last]; omega))
      have HX0 : Hid (wr.heap[w.heap.size]? = some (.cells #[.slice none 0 0, .slice none 0 0, .slice none 0 0] 28 (0, 0))) := by
        unfold Hid
        rw [(HF.out.low (Nat.le_succ _)).block _ (by omega), HBA.out.block _ (by omega)]
        exact X0.out
      have HX1 : Hid (wr.heap[w.heap.size + 1]? = some (.cells #[.int .i64 0, .int .i64 0] 31 (0, 0))) := by
        unfold Hid
        rw [(HF.out.low (Nat.le_succ _)).block _ (by omega), HBA.out.block _ (by omega)]
        exact X1.out
      have hgu := blk_lt k1
      have HBw := Lib.hid hBw
      clear hU k1 hplw hlen hBw
      go_wp2_with (first
        | (go_at_call 26; refine HEP.out.mono ?_; rintro e' w4 ⟨rfl, rfl⟩)
        | fail)
      refine HLY.out.mono ?_
      rintro e' w5 ⟨rfl, ⟨gpl, hgpl, hU5, hP5⟩, hF5⟩
      have HC := Lib.hid (HWR.out _ _ _ _ _ _ w5 hU5 hP5)
      have hz4 := HBw.out.size
      have y0 := (hF5.block w.heap.size (blk_lt HX0.out) (by omega)).trans HX0.out
      have y1 := (hF5.block (w.heap.size + 1) (blk_lt HX1.out) (by omega)).trans HX1.out
      have HB5 : Hid (Below w.heap.size w w5) := HBw.out.trans ⟨hF5.os, hF5.tape, hF5.output, hF5.size, fun i hi => hF5.block i (by omega) (by omega)⟩
      have Y0 := Lib.hid y0
      have Y1 := Lib.hid y1
      clear hU5 hP5 hF5 y0 y1 HLY HEP HX0 HX1 HWR HNL
      go_wp2_with (go_at_call 28; refine HC.out.mono ?_; rintro e' w6 ⟨⟨ca, cl, cc, rfl, hob⟩, hb6⟩; have z0 := (hb6.block _ (blk_lt Y0.out)).trans Y0.out; have z1 := (hb6.block _ (blk_lt Y1.out)).trans Y1.out; have g0 : w6.cell? ⟨w.heap.size, 0, none⟩ = some (.slice none 0 0) := blk_cell z0 rfl; have g1 : w6.cell? ⟨w.heap.size, 1, none⟩ = some (.slice none 0 0) := blk_cell z0 rfl; have g2 : w6.cell? ⟨w.heap.size, 2, none⟩ = some (.slice none 0 0) := blk_cell z0 rfl; have q0 : w6.frozen? ⟨w.heap.size, 0, none⟩ = false := blk_froz z0; have q1 : w6.frozen? ⟨w.heap.size, 1, none⟩ = false := blk_froz z0; have q2 : w6.frozen? ⟨w.heap.size, 2, none⟩ = false := blk_froz z0; obtain ⟨⟨u0, u1⟩, t0, t1⟩ := var2_of z1; have HOB := Lib.hid hob; have HB6 := Lib.hid (HB5.out.trans (hb6.mono HB5.out.size)); have Z0 := Lib.hid z0; have Z1 := Lib.hid z1; clear hob hb6 z0 z1)
      have n3 : ∀ (x y z : Option Addr) (a b c d e f : Nat) (j : Nat) (n : Int), (#[Value.slice x a b, .slice y c d, .slice z e f] : Array Value)[j]? ≠ some (.int .u8 n) := by
        intro x y z a b c d e f j n h
        rcases j with _ | _ | _ | j <;> simp at h
      have o1 := OBytes.set (i := 0) (v := .slice ca cl cc) HOB.out Z0.out (n3 _ _ _ _ _ _ _ _ _)
      have z1 := blk_set (i := 0) (v := .slice ca cl cc) Z0.out
      have o2 := OBytes.set (i := 1) (v := .slice none 0 0) o1 z1 (n3 _ _ _ _ _ _ _ _ _)
      have z2 := blk_set (i := 1) (v := .slice none 0 0) z1
      have o3 := OBytes.set (i := 2) (v := .slice none 0 0) o2 z2 (n3 _ _ _ _ _ _ _ _ _)
      have Z1b : (((w6.setCell ⟨w.heap.size, 0, none⟩ (.slice ca cl cc)).setCell ⟨w.heap.size, 1, none⟩ (.slice none 0 0)).setCell ⟨w.heap.size, 2, none⟩ (.slice none 0 0)).heap[w.heap.size + 1]? = some (.cells #[.int .i64 0, .int .i64 0] 31 (0, 0)) := by
        rw [Below.heap_setCell _ _ _ _ (by show w.heap.size + 1 ≠ w.heap.size; omega), Below.heap_setCell _ _ _ _ (by show w.heap.size + 1 ≠ w.heap.size; omega), Below.heap_setCell _ _ _ _ (by show w.heap.size + 1 ≠ w.heap.size; omega)]
        exact Z1.out
      refine bodyPost_ret (v := .tuple #[.agg #[.slice ca cl cc, .slice none 0 0, .slice none 0 0], .agg #[.int .i64 0, .int .i64 0]]) (by simp [results, Tryz.results15, go_sem, g0, g1, g2, u0, u1]) rfl ⟨⟨ca, cl, cc, rfl, ?_⟩, ?_⟩
      · exact o3.below ((same_set Z1b rfl).trans (same_set (same_blk Z1b rfl) rfl)) (Nat.le_refl _)
      · exact ((((HB6.out.setCell (Nat.le_refl _) _).setCell (Nat.le_refl _) _).setCell (Nat.le_refl _) _).setCell (Nat.le_succ _) _).setCell (Nat.le_succ _) _

end Go.Proofs.YtagkmgdjkailkaaGreatDoor
