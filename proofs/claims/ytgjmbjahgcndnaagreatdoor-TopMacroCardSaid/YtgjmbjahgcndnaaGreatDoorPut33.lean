/- asm: a pool begun; lines built. asm: the unit of a source of lines of .long. asm: nothing is made long where nothing leads; places laid. asm: an operand '@' and a register. expr: a sign ahead of a number. expr: a sign, and a number behind it, added. -/
import Derived.Test.YtgjmbjahgcndnaaGreatDoorPut32
import Derived.Test.YtgjmbjahgcndnaaGreatDoorPut29
import Derived.Test.YtgjmbjahgcndnaaGreatDoorPut28
import Derived.Test.YtgjmbjahgcndnaaGreatDoorPut31
namespace Go.Proofs.YtgjmbjahgcndnaaGreatDoor
open Go.RowKit

theorem newPool_any (w : World) : Calls Tryz.prog 70 #[] w fun r w' => (∃ g mb, r = .returned (.pointer (some ⟨g, 0, none⟩)) ∧ w.heap.size ≤ g ∧ w'.heap[g]? = some (.cells #[.int .i64 0, .slice none 0 0, .map (some mb)] 184 (0, 0))) ∧ Below w.heap.size w w' := by
  have hmm : ∀ w, (Instr.makeMap 181 none).run Tryz.prog w = .ok (.map (some w.heap.size)) (w.alloc (.map #[] 0)) := fun w => rfl
  go_enter Tryz.func70, Tryz.ntmps70
  go_wp2_with fail
  go_returns
  exact ⟨⟨w.heap.size + 1, w.heap.size, rfl, by omega, new_at _ _ (by simp)⟩, by go_grown⟩

theorem Fr.low {g B : Nat} {w w' : World} (h : Fr g B w w') (hg : g ≤ B) : Below g w w' := ⟨h.os, h.tape, h.output, h.size, fun i hi => h.block i (by omega) (by omega)⟩

theorem UR.line {w : World} {B gu : Nat} {e : Value} {ln : Int} {nv lm pp pv rv : Value} {its : List It} (h : UR w B gu e ln nv lm pp pv rv its) (p : Int) : UR (w.setCell ⟨gu, 1, none⟩ (.int .i64 p)) B gu e p nv lm pp pv rv its := by
  obtain ⟨iv, l, h1, h2, h3, h4⟩ := h.its
  exact ⟨h.lt, by simpa using h.le, iv, l, blk_set h1, row_set h2 h.lt, h3, fun p hp => (h4 p hp).fr h1 (fun i _ hne => Below.heap_setCell _ _ _ _ hne)⟩

/-- The items of lines of .long. -/
def dataI (l : List (Int × Int)) : List It := l.map fun a => numI a.1 4 [] (wrap32 a.2)

/-- A block that holds no byte is changed. -/
theorem OBytes.set {w : World} {q i : Nat} {c : Array Value} {t : TypeId} {v x : Value} {l : List UInt8} (ho : OBytes w x l) (h : w.heap[q]? = some (.cells c t (0, 0))) (hc : ∀ (j : Nat) (n : Int), c[j]? ≠ some (Value.int .u8 n)) : OBytes (w.setCell ⟨q, i, none⟩ v) x l := by
  obtain ⟨ad, cap, rfl, hm, hl⟩ := ho
  refine ⟨ad, cap, rfl, hm, fun h0 => ?_⟩
  obtain ⟨b, o, rfl, hb, hcell⟩ := hl h0
  have hne : b ≠ q := by
    intro e
    subst e
    have := hcell 0 h0
    simp only [World.cell?, h] at this
    exact hc (o + 0) _ (by simpa using this)
  refine ⟨b, o, rfl, by simpa using hb, fun j hj => ?_⟩
  have hk : (w.setCell ⟨q, i, none⟩ v).heap[b]? = w.heap[b]? := Below.heap_setCell _ _ _ _ hne
  have := hcell j hj
  simp only [World.cell?, hk] at this ⊢
  exact this

/-- What write answers of such items, as its contract will say. -/
def WritesTo (its : List It) (code : List UInt8) : Prop := ∀ (gu B gp : Nat) (lm pp : Value) (ln : Int) (W : World), UR W B gu (.slice none 0 0) ln (.slice none 0 0) lm pp (.slice (some ⟨gp, 0, none⟩) (its.length + 1) (its.length + 1)) (.slice none 0 0) its → PlR W gp its.length (its.length + 1) (tellU 0 its) →
  Calls Tryz.prog 74 #[.pointer (some ⟨gu, 0, none⟩)] W fun r w' => (∃ ca cl cc, r = .returned (.tuple #[.agg #[.slice ca cl cc, .slice none 0 0, .slice none 0 0], .agg #[.int .i64 0, .int .i64 0]]) ∧ OBytes w' (.slice ca cl cc) code) ∧ Below W.heap.size W w'

theorem dataI_laid (l : List (Int × Int)) : ∀ x, x ∈ dataI l → Laid1 x := by
  intro x hx
  obtain ⟨a, _, rfl⟩ := List.mem_map.1 hx
  exact ⟨by show (0 : Int) ≤ 4; decide, by show (4 : Int) ≤ 6; decide, by show (1 : Int) ≤ 1; decide, by show (1 : Int) ≤ 16; decide⟩
theorem dataI_last (l : List (Int × Int)) : (tellU 0 (dataI l)).getD (dataI l).length 0 = 4 * l.length := by
  have e : dataI l = longI (l.map fun a => (a.1, wrap32 a.2)) := by simp [dataI, longI]
  have := tell_long (l.map fun a => (a.1, wrap32 a.2)) 0 l.length (by omega) (by simp)
  rw [e]
  simp only [longI, List.length_map] at this ⊢
  simpa using this

set_option maxHeartbeats 4000000 in
set_option maxRecDepth 100000 in
/-- Lines of .long built; lengthen's and write's contracts handed in. -/
theorem build_data (v : Value) (l : List (Int × Int)) (code : List UInt8) (w : World) (h : LRd w v (l.map fun a => (a.1, [tkLong, tkNum a.2]))) (hL : Xp.KLaid w) (hG : Sc.Glob w) (hn : l.length ≤ 1000) (hNL : ∀ gu B e nv lm pp rv ln, NoLong gu B e nv lm pp rv ln (dataI l)) (hW : WritesTo (dataI l) code) :
    Calls Tryz.prog 44 #[v, .slice none 0 0] w fun r w' => (∃ ca cl cc, r = .returned (.tuple #[.agg #[.slice ca cl cc, .slice none 0 0, .slice none 0 0], .agg #[.int .i64 0, .int .i64 0]]) ∧ OBytes w' (.slice ca cl cc) code) ∧ Below w.heap.size w w' := by
  have HNL := Lib.hid hNL
  have HWR := Lib.hid hW
  clear hNL hW
  have hmm : ∀ w, (Instr.makeMap 89 none).run Tryz.prog w = .ok (.map (some w.heap.size)) (w.alloc (.map #[] 0)) := fun w => rfl
  obtain ⟨va, vc, rfl, _⟩ := id h
  have HV := Lib.hid h
  have HL := Lib.hid hL
  have HG := Lib.hid hG
  clear h hL hG
  simp only [List.length_map] at *
  go_enter Tryz.func44, Tryz.ntmps44
  go_wp2_with fail
  refine (newPool_any _).mono ?_
  rintro e w1 ⟨⟨gp, mb, rfl, hgp, hpl⟩, hb1⟩
  have hB1 : Below w.heap.size w w1 := Below.trans (by go_grown) (hb1.mono (by go_size))
  have x0 : w1.heap[w.heap.size]? = some (.cells #[.slice none 0 0, .slice none 0 0, .slice none 0 0] 49 (0, 0)) := by
    rw [hb1.block _ (by go_size), old2 _ _ (by go_size), old2 _ _ (by go_size)]
    exact new_at _ _ rfl
  have x1 : w1.heap[w.heap.size + 1]? = some (.cells #[.int .i64 0, .int .i64 0] 36 (0, 0)) := by
    rw [hb1.block _ (by go_size), old2 _ _ (by go_size)]
    exact new_at _ _ (by go_size)
  have hz1 : w.heap.size + 3 ≤ w1.heap.size := Nat.le_trans (by simp) hb1.size
  have HB1 := Lib.hid hB1
  have X0 := Lib.hid x0
  have X1 := Lib.hid x1
  have HPL := Lib.hid hpl
  clear hb1 hB1 x0 x1 hpl
  go_wp2_with fail
  have hU0 : UR (w1.alloc (.cells #[.slice none 0 0, .int .i64 0, .slice none 0 0, .map (some (w.heap.size + 1 + 1)), .slice none 0 0, .pointer (some ⟨gp, 0, none⟩), .slice none 0 0, .slice none 0 0] 141)) (w1.heap.size + 1) w1.heap.size (.slice none 0 0) 0 (.slice none 0 0) (.map (some (w.heap.size + 1 + 1))) (.pointer (some ⟨gp, 0, none⟩)) (.slice none 0 0) (.slice none 0 0) [] := ⟨by omega, by simp, .slice none 0 0, [], new_at _ _ rfl, World.ownsRow_nil _ _ _ _, rfl, fun p hp => by simp at hp⟩
  have hbA : Below w1.heap.size w1 (w1.alloc (.cells #[.slice none 0 0, .int .i64 0, .slice none 0 0, .map (some (w.heap.size + 1 + 1)), .slice none 0 0, .pointer (some ⟨gp, 0, none⟩), .slice none 0 0, .slice none 0 0] 141)) := oalloc _ _
  have hzA : (w1.alloc (.cells #[.slice none 0 0, .int .i64 0, .slice none 0 0, .map (some (w.heap.size + 1 + 1)), .slice none 0 0, .pointer (some ⟨gp, 0, none⟩), .slice none 0 0, .slice none 0 0] 141)).heap.size = w1.heap.size + 1 := by simp
  generalize w1.alloc (.cells #[.slice none 0 0, .int .i64 0, .slice none 0 0, .map (some (w.heap.size + 1 + 1)), .slice none 0 0, .pointer (some ⟨gp, 0, none⟩), .slice none 0 0, .slice none 0 0] 141) = W1 at *
  have HU0 := Lib.hid hU0
  have HBA := Lib.hid hbA
  have HZA := Lib.hid hzA
  clear hU0 hbA hzA
  go_loopw [17] (fun iv wr => ∃ (k : Nat) (ln : Int), k ≤ l.length ∧ iv = .int .i64 k ∧ Hid (UR wr (w1.heap.size + 1) w1.heap.size (.slice none 0 0) ln (.slice none 0 0) (.map (some (w.heap.size + 1 + 1))) (.pointer (some ⟨gp, 0, none⟩)) (.slice none 0 0) (.slice none 0 0) (dataI (l.take k))) ∧ Hid (Fr w1.heap.size (w1.heap.size + 1) W1 wr)) (fun iv _ => l.length - (intOf iv).toNat)
  case atStart => exact ⟨0, 0, Nat.zero_le _, rfl, HU0, Fr.refl _ _ _⟩
  case round =>
    obtain ⟨k, ln, hk, rfl, HU, HF⟩ := hrel
    have hBw : Below w.heap.size w wr := (HB1.out.trans (HBA.out.mono HB1.out.size)).trans ((HF.out.low (Nat.le_succ _)).mono HB1.out.size)
    by_cases hlt : k < l.length
    · have hk' : (k : Int) < l.length := by omega
      obtain ⟨va', vc', ev, _, hcl⟩ := id HV.out
      simp only [List.length_map] at ev hcl
      injection ev with e1 _ e3
      subst e1 e3
      obtain ⟨b, o, rfl, hbl, hcell⟩ := hcl (by omega)
      obtain ⟨td, tn, tc, r0, r1, r2⟩ := hcell k hlt
      simp only [List.getElem_map] at r1 r2
      obtain ⟨a, ha⟩ : ∃ a, l[k]'hlt = a := ⟨_, rfl⟩
      rw [ha] at r1 r2
      have HT : Hid (dataI (l.take (k + 1)) = dataI (l.take k) ++ [numI a.1 4 [] (wrap32 a.2)]) := by
        unfold Hid
        rw [List.take_succ_eq_append_getElem hlt, ha]
        simp [dataI]
      obtain ⟨p, n⟩ := a
      simp only at r1 r2 HT
      clear ha hcell hcl
      have hgu : w1.heap.size < wr.heap.size := Nat.lt_of_lt_of_le (Nat.lt_succ_self _) HU.out.le
      have c1 : wr.cell? ⟨w1.heap.size, 1, none⟩ = some (.int .i64 ln) := by obtain ⟨iv, ll, k1, _⟩ := HU.out.its; exact blk_cell k1 rfl
      have f1 : wr.frozen? ⟨w1.heap.size, 1, none⟩ = false := by obtain ⟨iv, ll, k1, _⟩ := HU.out.its; exact blk_froz k1
      have hz0 := HB1.out.size
      have HRL : Hid (Calls Tryz.prog 71 #[.pointer (some ⟨w1.heap.size, 0, none⟩), .slice td tn tc] ((wr.setCell ⟨w1.heap.size, 1, none⟩ (.int .i64 p)).alloc (.cells #[.slice td tn tc, .int .i64 p] 145)) fun r w' => r = .returned (.int .i64 0) ∧ UR w' (w1.heap.size + 1) w1.heap.size (.slice none 0 0) p (.slice none 0 0) (.map (some (w.heap.size + 1 + 1))) (.pointer (some ⟨gp, 0, none⟩)) (.slice none 0 0) (.slice none 0 0) (dataI (l.take (k + 1))) ∧ Fr w1.heap.size (w1.heap.size + 1) W1 w') := by
        have hB2 : Below w.heap.size w ((wr.setCell ⟨w1.heap.size, 1, none⟩ (.int .i64 p)).alloc (.cells #[.slice td tn tc, .int .i64 p] 145)) := (hBw.setCell hz0 _).alloc (by simpa using hBw.size) _
        have hU2 := (HU.out.line p).go (oalloc (wr.setCell ⟨w1.heap.size, 1, none⟩ (.int .i64 p)) (.cells #[.slice td tn tc, .int .i64 p] 145))
        have hF2 : Fr w1.heap.size (w1.heap.size + 1) W1 ((wr.setCell ⟨w1.heap.size, 1, none⟩ (.int .i64 p)).alloc (.cells #[.slice td tn tc, .int .i64 p] 145)) := (HF.out.trans (Fr.of (gset _ _ _ _) HU.out.le)).trans (Fr.below ((oalloc _ _).mono (by simpa using HU.out.le)))
        refine (read_long w1.heap.size (w1.heap.size + 1) _ _ _ _ _ p _ (.slice td tn tc) n _ hU2 (r2.below hB2 (Nat.le_refl _)) (KL.below HL.out hB2) (HG.out.below hB2 HG.out.sz) (by simp [dataI]; omega)).mono ?_
        rintro r w' ⟨rfl, h1, h2, _⟩
        exact ⟨rfl, by rw [HT.out]; exact h1, hF2.trans h2⟩
      replace r0 := (hBw.cell (by show b < w.heap.size; exact hbl)).trans r0
      replace r1 := (hBw.cell (by show b < w.heap.size; exact hbl)).trans r1
      have hbr : b < wr.heap.size := Nat.lt_of_lt_of_le hbl hBw.size
      have hbn : b ≠ w1.heap.size := by omega
      clear r2 hBw
      go_wp2_with (go_at_call 71; refine HRL.out.mono ?_; rintro e' w3 ⟨rfl, hu3, hf3⟩; have HU3 := Lib.hid hu3; have HF3 := Lib.hid hf3; clear hu3 hf3)
      exact ⟨⟨k + 1, p, by omega, by go_num, HU3, HF3⟩, by simp [intOf]; omega⟩
    · obtain rfl : k = l.length := by omega
      have hk' : ¬ ((l.length : Nat) : Int) < l.length := by omega
      have hU := HU.out
      rw [List.take_length] at hU
      obtain ⟨iv9, l9, k1, _⟩ := id hU.its
      have hplw : wr.heap[gp]? = some (.cells #[.int .i64 0, .slice none 0 0, .map (some mb)] 184 (0, 0)) := by
        rw [(HF.out.low (Nat.le_succ _)).block gp (blk_lt HPL.out), HBA.out.block gp (blk_lt HPL.out)]
        exact HPL.out
      have HEP := Lib.hid (endPool_none w1.heap.size gp none 0 wr (blk_cell k1 rfl) (blk_cell hplw rfl))
      have hlen : (dataI l).length = l.length := by simp [dataI]
      have HLY := Lib.hid (lay_any w1.heap.size (w1.heap.size + 1) _ _ _ _ _ _ ⟨_, _, _, rfl⟩ ln _ wr hU (by omega) (dataI_laid l) (HNL.out _ _ _ _ _ _ _ _) (by rw [dataI_last]; omega))
      have HX0 : Hid (wr.heap[w.heap.size]? = some (.cells #[.slice none 0 0, .slice none 0 0, .slice none 0 0] 49 (0, 0))) := by
        unfold Hid
        rw [(HF.out.low (Nat.le_succ _)).block _ (by omega), HBA.out.block _ (by omega)]
        exact X0.out
      have HX1 : Hid (wr.heap[w.heap.size + 1]? = some (.cells #[.int .i64 0, .int .i64 0] 36 (0, 0))) := by
        unfold Hid
        rw [(HF.out.low (Nat.le_succ _)).block _ (by omega), HBA.out.block _ (by omega)]
        exact X1.out
      have hgu := blk_lt k1
      have HBw := Lib.hid hBw
      clear hU k1 hplw hlen hBw
      go_wp2_with (first
        | (go_at_call 72; refine HEP.out.mono ?_; rintro e' w4 ⟨rfl, rfl⟩)
        | fail)
      refine HLY.out.mono ?_
      rintro e' w5 ⟨rfl, ⟨gpl, hgpl, hU5, hP5⟩, hF5⟩
      have HC := Lib.hid (HWR.out _ _ _ _ _ _ w5 hU5 hP5)
      have hz4 := HBw.out.size
      have y0 := (hF5.block w.heap.size (blk_lt HX0.out) (by omega)).trans HX0.out
      have y1 := (hF5.block (w.heap.size + 1) (blk_lt HX1.out) (by omega)).trans HX1.out
      have HB5 : Hid (Below w.heap.size w w5) := HBw.out.trans ⟨hF5.os, hF5.tape, hF5.output, hF5.size, fun i hi => hF5.block i (by omega) (by omega)⟩
      have Y0 := Lib.hid y0
      have Y1 := Lib.hid y1
      clear hU5 hP5 hF5 y0 y1 HLY HEP HX0 HX1 HWR HNL
      go_wp2_with (go_at_call 74; refine HC.out.mono ?_; rintro e' w6 ⟨⟨ca, cl, cc, rfl, hob⟩, hb6⟩; have z0 := (hb6.block _ (blk_lt Y0.out)).trans Y0.out; have z1 := (hb6.block _ (blk_lt Y1.out)).trans Y1.out; have g0 : w6.cell? ⟨w.heap.size, 0, none⟩ = some (.slice none 0 0) := blk_cell z0 rfl; have g1 : w6.cell? ⟨w.heap.size, 1, none⟩ = some (.slice none 0 0) := blk_cell z0 rfl; have g2 : w6.cell? ⟨w.heap.size, 2, none⟩ = some (.slice none 0 0) := blk_cell z0 rfl; have q0 : w6.frozen? ⟨w.heap.size, 0, none⟩ = false := blk_froz z0; have q1 : w6.frozen? ⟨w.heap.size, 1, none⟩ = false := blk_froz z0; have q2 : w6.frozen? ⟨w.heap.size, 2, none⟩ = false := blk_froz z0; obtain ⟨⟨u0, u1⟩, t0, t1⟩ := var2_of z1; have HOB := Lib.hid hob; have HB6 := Lib.hid (HB5.out.trans (hb6.mono HB5.out.size)); have Z0 := Lib.hid z0; have Z1 := Lib.hid z1; clear hob hb6 z0 z1)
      have n3 : ∀ (x y z : Option Addr) (a b c d e f : Nat) (j : Nat) (n : Int), (#[Value.slice x a b, .slice y c d, .slice z e f] : Array Value)[j]? ≠ some (.int .u8 n) := by
        intro x y z a b c d e f j n h
        rcases j with _ | _ | _ | j <;> simp at h
      have o1 := OBytes.set (i := 0) (v := .slice ca cl cc) HOB.out Z0.out (n3 _ _ _ _ _ _ _ _ _)
      have z1 := blk_set (i := 0) (v := .slice ca cl cc) Z0.out
      have o2 := OBytes.set (i := 1) (v := .slice none 0 0) o1 z1 (n3 _ _ _ _ _ _ _ _ _)
      have z2 := blk_set (i := 1) (v := .slice none 0 0) z1
      have o3 := OBytes.set (i := 2) (v := .slice none 0 0) o2 z2 (n3 _ _ _ _ _ _ _ _ _)
      have Z1b : (((w6.setCell ⟨w.heap.size, 0, none⟩ (.slice ca cl cc)).setCell ⟨w.heap.size, 1, none⟩ (.slice none 0 0)).setCell ⟨w.heap.size, 2, none⟩ (.slice none 0 0)).heap[w.heap.size + 1]? = some (.cells #[.int .i64 0, .int .i64 0] 36 (0, 0)) := by
        rw [Below.heap_setCell _ _ _ _ (by show w.heap.size + 1 ≠ w.heap.size; omega), Below.heap_setCell _ _ _ _ (by show w.heap.size + 1 ≠ w.heap.size; omega), Below.heap_setCell _ _ _ _ (by show w.heap.size + 1 ≠ w.heap.size; omega)]
        exact Z1.out
      refine bodyPost_ret (v := .tuple #[.agg #[.slice ca cl cc, .slice none 0 0, .slice none 0 0], .agg #[.int .i64 0, .int .i64 0]]) (by simp [results, Tryz.results44, go_sem, g0, g1, g2, u0, u1]) rfl ⟨⟨ca, cl, cc, rfl, ?_⟩, ?_⟩
      · exact o3.below ((same_set Z1b rfl).trans (same_set (same_blk Z1b rfl) rfl)) (Nat.le_refl _)
      · exact ((((HB6.out.setCell (Nat.le_refl _) _).setCell (Nat.le_refl _) _).setCell (Nat.le_refl _) _).setCell (Nat.le_succ _) _).setCell (Nat.le_succ _) _

end Go.Proofs.YtgjmbjahgcndnaaGreatDoor

namespace Go.Proofs.YtgjmbjahgcndnaaGreatDoor
open Go.RowKit

theorem lcells_at : ∀ (ps : List (Sc.Ln × Value)) (i : Nat) (h : i < ps.length), (Sc.lcells ps)[i * 2]? = some (.int .i64 ps[i].1.pos) ∧ (Sc.lcells ps)[i * 2 + 1]? = some ps[i].2
  | [], i, h => by simp at h
  | p :: r, 0, h => by simp [Sc.lcells]
  | p :: r, i + 1, h => by
    have ih := lcells_at r i (by simpa using h)
    have e : Sc.lcells (p :: r) = [.int .i64 p.1.pos, p.2] ++ Sc.lcells r := by simp [Sc.lcells]
    rw [e, show (i + 1) * 2 = 2 + i * 2 by omega]
    simp only [List.getElem_cons_succ]
    refine ⟨?_, ?_⟩
    · rw [List.getElem?_append_right (by simp)]; simpa using ih.1
    · rw [List.getElem?_append_right (by simp; omega)]; simpa [show 2 + i * 2 + 1 - 2 = i * 2 + 1 by omega] using ih.2

theorem lin_of {w : World} {base : Nat} {v : Value} {ps : List (Sc.Ln × Value)} (h : Sc.LOwn w base v ps) : LIn w v (ps.map (·.1)) := by
  rcases id h.row.2 with ⟨hv, h0⟩ | ⟨g, cap, cur, rfl, hg, hgg, hle, hm, rest⟩
  · exact ⟨none, 0, by rw [hv]; simp [h0], fun h => by simp at h; omega⟩
  · refine ⟨some ⟨g, 0, none⟩, cap, by simp, fun _ => ⟨g, 0, rfl, blk_lt hgg, fun i hi => ?_⟩⟩
    have hi' : i < ps.length := by simpa using hi
    obtain ⟨a, b⟩ := lcells_at ps i hi'
    have hadd : ∀ j, (⟨g, 0, none⟩ : Addr).add j = ⟨g, 0 + j, none⟩ := fun j => by unfold Addr.add; split <;> simp_all
    have k0 := h.row.cells rfl _ _ a
    have k1 := h.row.cells rfl _ _ b
    rw [hadd] at k0 k1
    simp only [List.getElem_map]
    exact ⟨ps[i].2, k0, k1, Sc.reads_of_owns (h.toks ps[i] (List.getElem_mem _))⟩

/-- Lines with their numbers. -/
def numbered : Nat → List Int → List (Int × Int)
  | _, [] => []
  | k, n :: r => ((k : Int), n) :: numbered (k + 1) r
theorem numbered_len : ∀ (l : List Int) (k : Nat), (numbered k l).length = l.length
  | [], _ => rfl
  | n :: r, k => by simp [numbered, numbered_len r]
theorem numbered_ln : ∀ (l : List Int) (k : Nat), (Sc.dataLn k l).map lnOf = (numbered k l).map fun a => (a.1, [tkLong, tkNum a.2])
  | [], _ => rfl
  | n :: r, k => by simp [Sc.dataLn, numbered, numbered_ln r, lnOf, tkOf, Sc.tLong, Sc.tNum, tkLong, tkNum]
theorem dataLn_head : ∀ (l : List Int) (k : Nat) (x : Sc.Ln), x ∈ Sc.dataLn k l → x.toks.length ≤ 100000 ∧ PlainHead (headS (x.toks.map tkOf))
  | [], _, x, h => by simp [Sc.dataLn] at h
  | n :: r, k, x, h => by
    rcases List.mem_cons.1 h with rfl | h
    · refine ⟨by simp, ?_⟩
      intro q hq
      have e : headS (([Sc.tLong, Sc.tNum n] : List Sc.Tok).map tkOf) = ⟨#[46, 108, 111, 110, 103]⟩ := rfl
      rw [e, ByteArray.toList_eq]
      revert q
      decide
    · exact dataLn_head r (k + 1) x h
theorem dataLn_len : ∀ (l : List Int) (k : Nat), (Sc.dataLn k l).length = l.length
  | [], _ => rfl
  | n :: r, k => by simp [Sc.dataLn, dataLn_len r]

set_option maxHeartbeats 4000000 in
theorem unit_data (v : Value) (l : List Int) (code : List UInt8) (w : World) (hv : Sc.BReads w v (Sc.dataS l)) (hr : ∀ n, n ∈ l → 0 ≤ n ∧ n < 4294967296) (hl : l.length ≤ 40) (hL : Xp.KLaid w) (hG : Sc.Glob w) (hNL : ∀ gu B e nv lm pp rv ln, NoLong gu B e nv lm pp rv ln (dataI (numbered 1 l))) (hW : WritesTo (dataI (numbered 1 l)) code) :
    Calls Tryz.prog 23 #[v] w fun r w' => (∃ ca cl cc, r = .returned (.tuple #[.agg #[.slice ca cl cc, .slice none 0 0, .slice none 0 0], .agg #[.int .i64 0, .int .i64 0]]) ∧ OBytes w' (.slice ca cl cc) code) ∧ Below w.heap.size w w' := by
  have hs := Sc.src_ok (Sc.data_src l hr hl)
  have HLN := Lib.hid fun W (hb : Below w.heap.size w W) => Sc.lines_any v (Sc.dataS l) W (hG.below hb hG.sz) (by
    obtain ⟨ad, cap, rfl, hm, hc⟩ := hv
    refine ⟨ad, cap, rfl, hm, fun h0 => ?_⟩
    obtain ⟨b, o, rfl, hlt, hcell⟩ := hc h0
    exact ⟨b, o, rfl, Nat.lt_of_lt_of_le hlt hb.size, fun i hi => by rw [hb.cell (by exact hlt)]; exact hcell i hi⟩)
  obtain ⟨ad, cap, rfl, _⟩ := hv
  obtain ⟨hs1, hs2, hs3⟩ := hs
  have HSH : Hid (∀ v W, LIn W v (Sc.dataLn 1 l) → Calls Tryz.prog 43 #[v] W fun r w' => (∃ lv, r = .returned (.tuple #[lv, .slice none 0 0, .agg #[.int .i64 0, .int .i64 0]]) ∧ LRd w' lv ((numbered 1 l).map fun a => (a.1, [tkLong, tkNum a.2]))) ∧ Below W.heap.size W w') := fun v W h => by
    have := short_any v (Sc.dataLn 1 l) W h (by rw [dataLn_len]; omega) (fun x hx => (dataLn_head l 1 x hx).1) (fun x hx => (dataLn_head l 1 x hx).2)
    rwa [numbered_ln] at this
  have HBD := Lib.hid fun v W (hb : Below w.heap.size w W) (h : LRd W v ((numbered 1 l).map fun a => (a.1, [tkLong, tkNum a.2]))) => build_data v (numbered 1 l) code W h (KL.below hL hb) (hG.below hb hG.sz) (by rw [numbered_len]; omega) hNL hW
  clear hL hG hNL hW hr
  go_enter Tryz.func23, Tryz.ntmps23
  go_wp2_with fail
  refine (HLN.out _ (by go_grown)).mono ?_
  rintro e w1 ⟨⟨lv, ps, rfl, hps, hlo⟩, hb1⟩
  rw [hs1, hs2]
  rw [hs3] at hps
  have hlin := lin_of hlo
  rw [hps] at hlin
  obtain ⟨la, lc, hlv⟩ := row_shape hlo.row
  subst hlv
  have x0 : w1.heap[w.heap.size]? = some (.cells #[.slice none 0 0, .slice none 0 0, .slice none 0 0] 49 (0, 0)) := by
    rw [hb1.block _ (by go_size), old2 _ _ (by go_size)]
    exact new_at _ _ rfl
  have x1 : w1.heap[w.heap.size + 1]? = some (.cells #[.int .i64 0, .int .i64 0] 36 (0, 0)) := by
    rw [hb1.block _ (by go_size)]
    exact new_at _ _ (by go_size)
  have HB1 : Hid (Below w.heap.size w w1) := Below.trans (by go_grown) (hb1.mono (by go_size))
  have HSC := Lib.hid fun W (hb : Below w1.heap.size w1 W) => HSH.out (.slice la ps.length lc) W (by
    obtain ⟨ad', cap', e, hh⟩ := hlin
    refine ⟨ad', cap', e, fun h0 => ?_⟩
    obtain ⟨b, o, rfl, hlt, hc⟩ := hh h0
    refine ⟨b, o, rfl, Nat.lt_of_lt_of_le hlt hb.size, fun i hi => ?_⟩
    obtain ⟨tv, a1, a2, a3⟩ := hc i hi
    exact ⟨tv, by rw [hb.cell (by exact hlt)]; exact a1, by rw [hb.cell (by exact hlt)]; exact a2, a3.below hb (Nat.le_refl _)⟩)
  have X0 := Lib.hid x0
  have X1 := Lib.hid x1
  clear hb1 hlo hlin hps x0 x1 HLN HSH hs1 hs2 hs3
  go_wp2_with fail
  refine (HSC.out _ (oalloc _ _)).mono ?_
  rintro e w2 ⟨⟨sv, rfl, hlr⟩, hb2⟩
  obtain ⟨sa, sc, hsv, _⟩ := id hlr
  subst hsv
  obtain ⟨hB2, hz2, yr⟩ := box_keep hb2
  have HB2 := Lib.hid (HB1.out.trans (hB2.mono HB1.out.size))
  have X02 := Lib.hid ((hB2.block _ (blk_lt X0.out)).trans X0.out)
  have X12 := Lib.hid ((hB2.block _ (blk_lt X1.out)).trans X1.out)
  have HLR := Lib.hid hlr
  have YR := Lib.hid yr
  obtain ⟨⟨u0, u1⟩, f0, f1⟩ := var2_of yr
  clear hb2 hB2 yr hlr HSC X0 X1 HB1
  go_wp2_with fail
  have hsame : Below w2.heap.size w2 ((w2.setCell ⟨w1.heap.size, 0, none⟩ (.int .i64 0)).setCell ⟨w1.heap.size, 1, none⟩ (.int .i64 0)) := (same_set YR.out rfl).trans (same_set (same_blk YR.out rfl) rfl)
  have hlr3 := HLR.out.below hsame (Nat.le_refl _)
  simp only [List.length_map] at hlr3
  refine (HBD.out _ _ (HB2.out.trans (hsame.mono HB2.out.size)) hlr3).mono ?_
  rintro e w6 ⟨⟨ca, cl, cc, rfl, hob⟩, hb6⟩
  have hb7 : Below w2.heap.size w2 w6 := hsame.trans (hb6.mono hsame.size)
  have z0 := (hb7.block _ (blk_lt X02.out)).trans X02.out
  have z1 := (hb7.block _ (blk_lt X12.out)).trans X12.out
  have g0 : w6.cell? ⟨w.heap.size, 0, none⟩ = some (.slice none 0 0) := blk_cell z0 rfl
  have g1 : w6.cell? ⟨w.heap.size, 1, none⟩ = some (.slice none 0 0) := blk_cell z0 rfl
  have g2 : w6.cell? ⟨w.heap.size, 2, none⟩ = some (.slice none 0 0) := blk_cell z0 rfl
  have q0 : w6.frozen? ⟨w.heap.size, 0, none⟩ = false := blk_froz z0
  have q1 : w6.frozen? ⟨w.heap.size, 1, none⟩ = false := blk_froz z0
  have q2 : w6.frozen? ⟨w.heap.size, 2, none⟩ = false := blk_froz z0
  obtain ⟨⟨v0, v1⟩, t0, t1⟩ := var2_of z1
  have HOB := Lib.hid hob
  have HB6 := Lib.hid (HB2.out.trans (hb7.mono HB2.out.size))
  have Z0 := Lib.hid z0
  have Z1 := Lib.hid z1
  clear hob hb6 hb7 z0 z1 hsame hlr3 HBD HLR u0 u1 f0 f1
  go_wp2_with fail
  have n3 : ∀ (x y z : Option Addr) (a b c d e f : Nat) (j : Nat) (n : Int), (#[Value.slice x a b, .slice y c d, .slice z e f] : Array Value)[j]? ≠ some (.int .u8 n) := by
    intro x y z a b c d e f j n h
    rcases j with _ | _ | _ | j <;> simp at h
  have o1 := OBytes.set (i := 0) (v := .slice ca cl cc) HOB.out Z0.out (n3 _ _ _ _ _ _ _ _ _)
  have z1 := blk_set (i := 0) (v := .slice ca cl cc) Z0.out
  have o2 := OBytes.set (i := 1) (v := .slice none 0 0) o1 z1 (n3 _ _ _ _ _ _ _ _ _)
  have z2 := blk_set (i := 1) (v := .slice none 0 0) z1
  have o3 := OBytes.set (i := 2) (v := .slice none 0 0) o2 z2 (n3 _ _ _ _ _ _ _ _ _)
  have Z1b : (((w6.setCell ⟨w.heap.size, 0, none⟩ (.slice ca cl cc)).setCell ⟨w.heap.size, 1, none⟩ (.slice none 0 0)).setCell ⟨w.heap.size, 2, none⟩ (.slice none 0 0)).heap[w.heap.size + 1]? = some (.cells #[.int .i64 0, .int .i64 0] 36 (0, 0)) := by
    rw [Below.heap_setCell _ _ _ _ (by show w.heap.size + 1 ≠ w.heap.size; omega), Below.heap_setCell _ _ _ _ (by show w.heap.size + 1 ≠ w.heap.size; omega), Below.heap_setCell _ _ _ _ (by show w.heap.size + 1 ≠ w.heap.size; omega)]
    exact Z1.out
  refine bodyPost_ret (v := .tuple #[.agg #[.slice ca cl cc, .slice none 0 0, .slice none 0 0], .agg #[.int .i64 0, .int .i64 0]]) (by simp [results, Tryz.results23, go_sem, g0, g1, g2, v0, v1]) rfl ⟨⟨ca, cl, cc, rfl, ?_⟩, ?_⟩
  · exact o3.below ((same_set Z1b rfl).trans (same_set (same_blk Z1b rfl) rfl)) (Nat.le_refl _)
  · exact ((((HB6.out.setCell (Nat.le_refl _) _).setCell (Nat.le_refl _) _).setCell (Nat.le_refl _) _).setCell (Nat.le_succ _) _).setCell (Nat.le_succ _) _

end Go.Proofs.YtgjmbjahgcndnaaGreatDoor

namespace Go.Proofs.YtgjmbjahgcndnaaGreatDoor
open Go.RowKit

set_option maxHeartbeats 4000000 in
set_option maxRecDepth 100000 in
theorem lengthen_none (gu B : Nat) (e nv lm pp pv rv : Value) (ln : Int) (its : List It) (w : World) (h : UR w B gu e ln nv lm pp pv rv its) (hn : its.length ≤ 100000) (hnf : ∀ x, x ∈ its → NoFar x) :
    Calls Tryz.prog 98 #[.pointer (some ⟨gu, 0, none⟩)] w fun r w' => r = .returned (.bool false) ∧ Below w.heap.size w w' := by
  obtain ⟨iv, l, h1, h2, h3, h4⟩ := h.its
  obtain ⟨ia, ic, rfl⟩ := row_shape h2
  have hll : l.length = its.length := by rw [← h3]; simp
  have c4 : w.cell? ⟨gu, 4, none⟩ = some (.slice ia its.length ic) := blk_cell h1 rfl
  have hg := blk_lt h1
  have H2 := Lib.hid h2
  have H4 : Hid (∀ p, p ∈ l → p.2.1 = .nilFunc ∧ ∃ a b c, p.2.2 = .func a b c) := fun p hp => ⟨(h4 p hp).noFar (hnf p.1 (by rw [← h3]; exact List.mem_map_of_mem hp)), (h4 p hp).shape.2⟩
  clear h h1 h2 h3 h4 hnf
  have hnn : ∀ W, (binOp .neq 74 .nilFunc .nilFunc).run Tryz.prog W = .ok (.bool false) W := fun W => by kernel_rfl
  go_enter Tryz.func98, Tryz.ntmps98
  go_wp2_with fail
  go_loopw [3, 11] (fun bv iv wr => ∃ k : Nat, k ≤ its.length ∧ iv = .int .i64 k ∧ bv = .bool false ∧ Hid (Below w.heap.size w wr)) (fun _ iv _ => its.length - (intOf iv).toNat)
  case atStart => exact ⟨0, Nat.zero_le _, rfl, rfl, Below.refl _ _⟩
  case round =>
    obtain ⟨k, hk, rfl, rfl, HB⟩ := hrel
    by_cases hlt : k < its.length
    · have hk' : (k : Int) < its.length := by omega
      obtain ⟨g, cur, rfl, hgc, hcells⟩ := item_cells H2.out hll hlt
      obtain ⟨hgl, i0, i1, i2, i3, i4, i5⟩ := hcells wr (HB.out.block g (blk_lt hgc))
      obtain ⟨hf1, fa, fb, fc, hf2⟩ := H4.out (l[k]'(by omega)) (List.getElem_mem _)
      rw [hf1] at i4
      rw [hf2] at i5
      generalize (l[k]'(by omega)).1.line = li at *
      generalize (l[k]'(by omega)).1.size = sz at *
      generalize (l[k]'(by omega)).1.upTo = up at *
      generalize (l[k]'(by omega)).1.align = al at *
      clear hcells hf1 hf2 hgc
      go_wp2_with fail
      go_region
      all_goals go_wp2
      all_goals exact ⟨⟨k + 1, by omega, by go_num, rfl, (HB.out.alloc HB.out.size _).drew⟩, by simp [intOf]; omega⟩
    · have hk' : ¬ (k : Int) < its.length := by omega
      go_wp2
      go_ret
      exact ⟨rfl, HB.out⟩

end Go.Proofs.YtgjmbjahgcndnaaGreatDoor

namespace Go.Proofs.YtgjmbjahgcndnaaGreatDoor
open Go.RowKit

set_option maxHeartbeats 2000000 in
theorem operand_at (gu : Nat) (v : Value) (sn : Int) (x : Tk) (w : World) (hG : Sc.Glob w) (h : PReads w v [⟨3, sn, ⟨#[64]⟩⟩, x]) (hx : x.k = 1) (hr : 0 ≤ regU 1 x.t.data.toList) :
    Calls Tryz.prog 131 #[.pointer (some ⟨gu, 0, none⟩), v] w fun r w' => r = .returned (.tuple #[opV ⟨#[64]⟩ (regU 1 x.t.data.toList) ⟨#[]⟩ 0, .int .i64 0]) ∧ Below w.heap.size w w' := by
  have HN := Lib.hid fun W (hb : Below w.heap.size w W) => next_any v [⟨3, sn, ⟨#[64]⟩⟩, x] W (h.below hb (Nat.le_refl _))
  have HE0 := Lib.hid fun v' W (hb : Below w.heap.size w W) (hv : PReads W v' [x]) => lone_any ⟨#[64]⟩ v' x W (hG.below hb hG.sz) hv hx hr
  have HS1 : Hid (∀ W, Calls Tryz.prog 125 #[tokV 3 sn ⟨#[64]⟩, .string ⟨#[35]⟩] W fun r w' => r = .returned (.bool false) ∧ Below W.heap.size W w') := fun W => by
    have := asign_any 3 sn ⟨#[64]⟩ ⟨#[35]⟩ W
    rwa [show ((3 : Int) == 3 && (⟨#[64]⟩ : ByteArray).toList == (⟨#[35]⟩ : ByteArray).toList) = false by simp [ByteArray.toList_eq]] at this
  have HS2 : Hid (∀ W, Calls Tryz.prog 125 #[tokV 3 sn ⟨#[64]⟩, .string ⟨#[61]⟩] W fun r w' => r = .returned (.bool false) ∧ Below W.heap.size W w') := fun W => by
    have := asign_any 3 sn ⟨#[64]⟩ ⟨#[61]⟩ W
    rwa [show ((3 : Int) == 3 && (⟨#[64]⟩ : ByteArray).toList == (⟨#[61]⟩ : ByteArray).toList) = false by simp [ByteArray.toList_eq]] at this
  have HS3 : Hid (∀ W, Calls Tryz.prog 125 #[tokV 3 sn ⟨#[64]⟩, .string ⟨#[64]⟩] W fun r w' => r = .returned (.bool true) ∧ Below W.heap.size W w') := fun W => by
    have := asign_any 3 sn ⟨#[64]⟩ ⟨#[64]⟩ W
    rwa [show ((3 : Int) == 3 && (⟨#[64]⟩ : ByteArray).toList == (⟨#[64]⟩ : ByteArray).toList) = true by simp] at this
  obtain ⟨ad, cap, rfl, _⟩ := h
  clear hG
  generalize regU 1 x.t.data.toList = rg at *
  unfold opV at *
  unfold Tk.V tokV headT at *
  simp only [List.length_cons, List.length_nil] at *
  go_enter Tryz.func131, Tryz.ntmps131
  go_wp2_with fail
  refine (HN.out _ (oalloc _ _)).mono ?_
  rintro e w1 ⟨⟨v', rfl, hv⟩, hb1⟩
  obtain ⟨ad', cap', rfl, _⟩ := id hv
  obtain ⟨hB1, hz1, xr⟩ := box_keep hb1
  simp only [List.tail_cons, List.length_singleton] at *
  have HPV := Lib.hid hv
  have HBV := Lib.hid hb1
  clear hb1 hv
  go_wp2_with fail
  refine (HS1.out _).mono ?_
  rintro e w2 ⟨rfl, hb2⟩
  obtain ⟨hB2, hz2, xt⟩ := box_keep hb2
  replace xr := (hB2.block _ (by omega)).trans xr
  have HB := Lib.hid (hB1.trans (hB2.mono (by omega)))
  replace HBV := Lib.hid (HBV.out.trans (hB2.mono HBV.out.size))
  have t0 : w2.cell? ⟨w1.heap.size, 0, none⟩ = some (.int .i64 3) := blk_cell xt rfl
  have t1 : w2.cell? ⟨w1.heap.size, 1, none⟩ = some (.int .i64 sn) := blk_cell xt rfl
  have t2 : w2.cell? ⟨w1.heap.size, 2, none⟩ = some (.string ⟨#[64]⟩) := blk_cell xt rfl
  have XR := Lib.hid xr
  have XT := Lib.hid xt
  clear hb2 hB2 hB1 xr xt HS1
  go_wp2_with fail
  refine (HS2.out _).mono ?_
  rintro e w3 ⟨rfl, hb3⟩
  have xt3 := (hb3.block _ (blk_lt XT.out)).trans XT.out
  replace XR := Lib.hid ((hb3.block _ (blk_lt XR.out)).trans XR.out)
  replace HB := Lib.hid (HB.out.trans (hb3.mono HB.out.size))
  replace HBV := Lib.hid (HBV.out.trans (hb3.mono HBV.out.size))
  replace t0 : w3.cell? ⟨w1.heap.size, 0, none⟩ = some (.int .i64 3) := blk_cell xt3 rfl
  replace t1 : w3.cell? ⟨w1.heap.size, 1, none⟩ = some (.int .i64 sn) := blk_cell xt3 rfl
  replace t2 : w3.cell? ⟨w1.heap.size, 2, none⟩ = some (.string ⟨#[64]⟩) := blk_cell xt3 rfl
  have hz3 := blk_lt xt3
  replace XT := Lib.hid xt3
  clear hb3 xt3 HS2
  go_wp2_with fail
  refine (HS3.out _).mono ?_
  rintro e w4 ⟨rfl, hb4⟩
  have xt4 := (hb4.block _ (blk_lt XT.out)).trans XT.out
  replace XR := Lib.hid ((hb4.block _ (blk_lt XR.out)).trans XR.out)
  replace HB := Lib.hid (HB.out.trans (hb4.mono HB.out.size))
  replace HBV := Lib.hid (HBV.out.trans (hb4.mono HBV.out.size))
  replace t0 : w4.cell? ⟨w1.heap.size, 0, none⟩ = some (.int .i64 3) := blk_cell xt4 rfl
  replace t1 : w4.cell? ⟨w1.heap.size, 1, none⟩ = some (.int .i64 sn) := blk_cell xt4 rfl
  replace t2 : w4.cell? ⟨w1.heap.size, 2, none⟩ = some (.string ⟨#[64]⟩) := blk_cell xt4 rfl
  have hz4 := blk_lt xt4
  clear hb4 xt4 HS3 XT
  go_wp2_with fail
  refine (HE0.out _ _ HB.out (HPV.out.below HBV.out (Nat.le_refl _))).mono ?_
  rintro e w6 ⟨rfl, hb6⟩
  obtain ⟨⟨⟨u0, u1⟩, u2, u3⟩, ⟨f0, f1⟩, f2, f3⟩ := var4_of ((hb6.block _ (blk_lt XR.out)).trans XR.out)
  have hz6 : w.heap.size < w6.heap.size := Nat.lt_of_lt_of_le (blk_lt XR.out) hb6.size
  replace HB := Lib.hid (HB.out.trans (hb6.mono HB.out.size))
  clear hb6
  go_wp2_with fail
  exact bodyPost_ret (v := .tuple #[.agg #[.string ⟨#[64]⟩, .int .i64 rg, .string ⟨#[]⟩, .int .i64 0], .int .i64 0]) (by simp [results, Tryz.results131, go_sem, u0, u1, u2, u3]) rfl ⟨rfl, (((HB.out.setCell (Nat.le_refl _) _).setCell (Nat.le_refl _) _).setCell (Nat.le_refl _) _).setCell (Nat.le_refl _) _⟩

end Go.Proofs.YtgjmbjahgcndnaaGreatDoor

namespace Go.Proofs.YtgjmbjahgcndnaaGreatDoor
open Go.RowKit

theorem kind_neg (w : World) (hL : Xp.KLaid w) : Calls Tryz.prog 249 #[.agg #[.int .i64 3, .int .i64 0, .string ⟨#[45]⟩], .int .i64 1] w fun e w' => e = .returned (.int .i64 3) ∧ Below w.heap.size w w' := by
  have := Xp.kindOf_any ⟨3, 0, [45]⟩ 1 w hL
  rwa [show Xp.kindT 1 ⟨3, 0, [45]⟩ = 3 by decide] at this
theorem one_neg (n : Int) (w : World) : Calls Tryz.prog 265 #[.int .i64 3, .agg #[.string ⟨#[]⟩, .int .i64 n]] w fun e w' => e = .returned (.tuple #[.agg #[.string ⟨#[]⟩, .int .i64 (wrap32 (-n))], .int .i64 0]) ∧ Below w.heap.size w w' := by
  have := Xp.ofOne_any 3 ⟨[], n⟩ w (.inl rfl)
  rw [if_pos rfl, if_neg (by decide)] at this
  exact this

theorem neg_end {w w3 : World} {g q : Nat} {a : ByteArray} {b : Bool} {ev : Value} {u : Bool} {e : Int} (h : PR w g q a b ev u e false ⟨#[]⟩ 0) (hb : Below w.heap.size w w3) (x y : Value) :
    PR (((w3.setCell ⟨w.heap.size, 0, none⟩ x).setCell ⟨w.heap.size, 1, none⟩ y).setCell ⟨g, 5, none⟩ (.bool u)) g q a b ev u e false ⟨#[]⟩ 0 ∧ F2 g q w (((w3.setCell ⟨w.heap.size, 0, none⟩ x).setCell ⟨w.heap.size, 1, none⟩ y).setCell ⟨g, 5, none⟩ (.bool u)) := by
  have hg := blk_lt h.pt
  have hq := blk_lt h.ch
  have hb2 : Below w.heap.size w ((w3.setCell ⟨w.heap.size, 0, none⟩ x).setCell ⟨w.heap.size, 1, none⟩ y) := (hb.setCell (Nat.le_refl _) _).setCell (Nat.le_refl _) _
  have h2 := h.go hb2
  refine ⟨⟨?_, ?_⟩, (F2.below hb2).trans (F2.left (gset _ g 5 _))⟩
  · exact blk_set h2.pt
  · rw [Below.heap_setCell _ _ _ _ h2.ne.symm]
    exact h2.ch

set_option maxHeartbeats 4000000 in
set_option maxRecDepth 100000 in
theorem put_neg (g q : Nat) (b : Bool) (ev : Value) (u : Bool) (e : Int) (n : Int) (w : World) (hL : Xp.KLaid w) (h : PR w g q ⟨#[45]⟩ b ev u e false ⟨#[]⟩ 0) :
    Calls Tryz.prog 255 #[.pointer (some ⟨g, 0, none⟩), .agg #[.string ⟨#[]⟩, .int .i64 n]] w fun r w' => r = .returned (.tuple #[]) ∧ PR w' g q ⟨#[]⟩ true ev u e true ⟨#[]⟩ (wrap32 (-n)) ∧ F2 g q w w' := by
  have c0 : w.cell? ⟨g, 0, none⟩ = some (.string ⟨#[45]⟩) := blk_cell h.pt rfl
  have hq := blk_lt h.pt
  have HW := Lib.hid (within_any ⟨#[45]⟩ (.inr rfl))
  have HK := Lib.hid fun W (hb : Below w.heap.size w W) => kind_neg W (KL.below hL hb)
  have HO := Lib.hid fun W => one_neg n W
  have HP := Lib.hid fun W (hp : PR W g q ⟨#[45]⟩ b ev u e false ⟨#[]⟩ 0) => putWhole_any g q ⟨#[45]⟩ (.inr rfl) b ev u e ⟨#[]⟩ (wrap32 (-n)) W hp
  have H := Lib.hid h
  clear h hL
  go_enter Tryz.func255, Tryz.ntmps255
  go_wp2_with (go_at_call 258; refine (HW.out _).mono ?_; rintro e w1 ⟨rfl, rfl⟩)
  refine wp_loop_rounds 2 ?_
  rw [rounds_succ]
  go_wp2_with fail
  have hbx : (w.alloc (.cells #[.string ⟨#[]⟩, .int .i64 n] 201)).heap[w.heap.size]? = some (.cells #[.string ⟨#[]⟩, .int .i64 n] 201 (0, 0)) := new_at _ _ rfl
  have hb1 : Below w.heap.size w (w.alloc (.cells #[.string ⟨#[]⟩, .int .i64 n] 201)) := oalloc _ _
  have hsz : (w.alloc (.cells #[.string ⟨#[]⟩, .int .i64 n] 201)).heap.size = w.heap.size + 1 := by simp
  generalize w.alloc (.cells #[.string ⟨#[]⟩, .int .i64 n] 201) = W1 at *
  have hg := hb1.size
  have k0 : W1.cell? ⟨g, 0, none⟩ = some (.string ⟨#[45]⟩) := (hb1.cell (by exact hq)).trans c0
  have k1 : W1.cell? ⟨w.heap.size, 0, none⟩ = some (.string ⟨#[]⟩) := blk_cell hbx rfl
  have k2 : W1.cell? ⟨w.heap.size, 1, none⟩ = some (.int .i64 n) := blk_cell hbx rfl
  have HX := Lib.hid hbx
  have HB1 := Lib.hid hb1
  have HSZ := Lib.hid hsz
  clear hbx hb1 hg hsz
  go_region_with (first | (go_at_call 249; refine (HK.out _ (HB1.out.drew)).mono ?_; rintro e w2 ⟨rfl, hb2⟩; have HBA := Lib.hid ((HB1.out.drew).trans (hb2.mono HB1.out.size)); have hX2 := (hb2.block _ (blk_lt HX.out)).trans HX.out; have m1 : w2.cell? ⟨w.heap.size, 0, none⟩ = some (.string ⟨#[]⟩) := blk_cell hX2 rfl; have m2 : w2.cell? ⟨w.heap.size, 1, none⟩ = some (.int .i64 n) := blk_cell hX2 rfl; have HX2 := Lib.hid hX2; have HB2 := Lib.hid hb2; clear hX2 hb2) | (go_at_call 265; refine (HO.out _).mono ?_; rintro e w3 ⟨rfl, hb3⟩; have HBC := Lib.hid (HBA.out.trans (hb3.mono HBA.out.size)); have hP3 := (H.out.go HBC.out).pt; have p5 : w3.cell? ⟨g, 5, none⟩ = some (.bool u) := blk_cell hP3 rfl; have pf5 : w3.frozen? ⟨g, 5, none⟩ = false := blk_froz hP3; have pg : g < w3.heap.size := blk_lt hP3; clear hP3; have hX3 := (hb3.block _ (blk_lt HX2.out)).trans HX2.out; have q1 : w3.frozen? ⟨w.heap.size, 0, none⟩ = false := blk_froz hX3; have q2 : w3.frozen? ⟨w.heap.size, 1, none⟩ = false := blk_froz hX3; have n1 : w3.cell? ⟨w.heap.size, 0, none⟩ = some (.string ⟨#[]⟩) := blk_cell hX3 rfl; have n2 : w3.cell? ⟨w.heap.size, 1, none⟩ = some (.int .i64 n) := blk_cell hX3 rfl; have HX3 := Lib.hid hX3; have HB3 := Lib.hid hb3; clear hX3 hb3))
  all_goals cases u
  all_goals
    go_wp2_with fail
  all_goals
    rw [rounds_succ]
    go_wp2_with fail
  all_goals
    obtain ⟨hP4, hF4⟩ := neg_end H.out HBC.out (.string ⟨#[]⟩) (.int .i64 (wrap32 (-n)))
    refine (HP.out _ hP4).mono ?_
    rintro e' w5 ⟨rfl, hp5, hf5⟩
    go_wp2_with fail
    exact bodyPost_end (v := .tuple #[]) (by simp [results, Tryz.results255, go_sem]) rfl ⟨rfl, hp5, hF4.trans hf5⟩

end Go.Proofs.YtgjmbjahgcndnaaGreatDoor

namespace Go.Proofs.YtgjmbjahgcndnaaGreatDoor
open Go.RowKit

set_option maxHeartbeats 2000000 in
/-- A number behind a sign. -/
theorem next_neg (g q : Nat) (u : Bool) (n : Int) (t : ByteArray) (w : World) (hL : Xp.KLaid w) (h : PR w g q ⟨#[45]⟩ false (.slice none 0 0) u 0 false ⟨#[]⟩ 0) :
    Calls Tryz.prog 241 #[.pointer (some ⟨g, 0, none⟩), tokV 2 n t] w fun r w' => r = .returned (.int .i64 0) ∧ PR w' g q ⟨#[]⟩ true (.slice none 0 0) u 0 true ⟨#[]⟩ (wrap32 (-wrap32 n)) ∧ F2 g q w w' := by
  have c2 : w.cell? ⟨g, 2, none⟩ = some (.slice none 0 0) := blk_cell h.pt rfl
  have hg := blk_lt h.pt
  have HK : Hid (∀ W, Below w.heap.size w W → Calls Tryz.prog 249 #[tokV 2 n t, .int .i64 1] W fun e w' => e = .returned (.int .i64 0) ∧ Below W.heap.size W w') := fun W hb => by
    have := Xp.kindOf_any (xtok 2 n t) 1 W (KL.below hL hb)
    simpa [xtok, tokV, Xp.kindT, Xp.kindFromT, Xp.signT] using this
  have HS : Hid (∀ W, Calls Tryz.prog 251 #[tokV 2 n t, .string ⟨#[40]⟩] W fun e w' => e = .returned (.bool false) ∧ Below W.heap.size W w') := fun W => by
    have := Xp.isSign_any (xtok 2 n t) ⟨#[40]⟩ W
    simpa [xtok, tokV, Xp.signT] using this
  have HF := Lib.hid fun W => leaf_num n t W
  have HE := Lib.hid fun W (hb : Below w.heap.size w W) => eval_num (wrap32 n) W (KL.below hL hb)
  have HP := Lib.hid fun W (hb : Below w.heap.size w W) => put_neg g q false (.slice none 0 0) u 0 (wrap32 n) W (KL.below hL hb) (h.go hb)
  have HO := Lib.hid h
  try simp only [wrap32_two] at HE
  clear h hL
  unfold tokV at *
  go_enter Tryz.func241, Tryz.ntmps241
  go_wp2_with fail
  refine (HK.out _ (oalloc _ _)).mono ?_
  rintro e w1 ⟨rfl, hb1⟩
  obtain ⟨hb, hz1, xr⟩ := box_keep hb1
  clear hb1 HK
  have x0 : w1.cell? ⟨w.heap.size, 0, none⟩ = some (.int .i64 2) := blk_cell xr rfl
  have x1 : w1.cell? ⟨w.heap.size, 1, none⟩ = some (.int .i64 n) := blk_cell xr rfl
  have x2 : w1.cell? ⟨w.heap.size, 2, none⟩ = some (.string t) := blk_cell xr rfl
  have HB := Lib.hid hb
  clear hb xr
  go_wp2_with fail
  refine (HS.out _).mono ?_
  rintro e w2 ⟨rfl, hb2⟩
  replace x0 := (hb2.cell (by show w.heap.size < w1.heap.size; omega)).trans x0
  replace x1 := (hb2.cell (by show w.heap.size < w1.heap.size; omega)).trans x1
  replace x2 := (hb2.cell (by show w.heap.size < w1.heap.size; omega)).trans x2
  replace HB := Lib.hid (HB.out.trans (hb2.mono (by omega)))
  have hz2 := Nat.lt_of_lt_of_le hz1 hb2.size
  clear hb2 hz1
  go_wp2_with fail
  refine (HF.out _).mono ?_
  rintro e w3 ⟨rfl, hb3⟩
  replace HB := Lib.hid (HB.out.trans (hb3.mono (by omega)))
  have hz3 := Nat.lt_of_lt_of_le hz2 hb3.size
  have y2 := (HB.out.cell (by show g < w.heap.size; exact hg)).trans c2
  have hg3 : g < w3.heap.size := by omega
  clear hb3 hz2 x0 x1 x2
  go_wp2_with fail
  go_region_with (go_at_call 254; refine (HE.out _ (HB.out.trans (Below.drew (by go_grown)))).mono ?_; rintro e w4 ⟨rfl, hb4⟩; have HB4 : Hid (Below w.heap.size w w4) := (by refine Below.trans ?_ (hb4.mono (by go_size)); have hb := HB.out; go_grown); have hz4 : w3.heap.size < w4.heap.size := Nat.lt_of_lt_of_le (by go_size) hb4.size; first | (have zr : w4.heap[w3.heap.size + 1]? = some (.cells #[.string ⟨#[]⟩, .int .i64 0] 201 (0, 0)) := (hb4.block _ (by simp)).trans (new_at _ _ (by simp)); obtain ⟨⟨z0, z1⟩, f0, f1⟩ := Xp.var2_of zr; have hz4 := blk_lt zr; clear zr hb4) | clear hb4)
  all_goals
    go_wp2_with (go_at_call 255; refine (HP.out _ (by have hb := HB4.out; go_grown)).mono ?_; rintro e w5 ⟨rfl, hp5, hb5⟩)
    go_returns
    refine ⟨rfl, hp5, F2.trans (F2.below ?_) hb5⟩
    have hb := HB4.out
    go_grown


theorem begin_neg (g q : Nat) (u : Bool) (w : World) (h : PR w g q ⟨#[]⟩ false (.slice none 0 0) u 0 false ⟨#[]⟩ 0) :
    Calls Tryz.prog 252 #[.pointer (some ⟨g, 0, none⟩), .string ⟨#[45]⟩] w fun r w' => r = .returned (.int .i64 0) ∧ PR w' g q ⟨#[45]⟩ false (.slice none 0 0) u 0 false ⟨#[]⟩ 0 ∧ F2 g q w w' := by
  have c0 : w.cell? ⟨g, 0, none⟩ = some (.string ⟨#[]⟩) := blk_cell h.pt rfl
  have f0 := blk_froz h.pt (i := 0)
  have hg := blk_lt h.pt
  have H := Lib.hid h
  clear h
  go_enter Tryz.func252, Tryz.ntmps252
  go_wp2
  go_ret
  refine ⟨rfl, ⟨blk_set H.out.pt, ?_⟩, F2.left (gset w g 0 _)⟩
  rw [Below.heap_setCell _ _ _ _ H.out.ne.symm]
  exact H.out.ch
set_option maxHeartbeats 2000000 in
theorem next_sign (g q : Nat) (u : Bool) (w : World) (hL : Xp.KLaid w) (h : PR w g q ⟨#[]⟩ false (.slice none 0 0) u 0 false ⟨#[]⟩ 0) :
    Calls Tryz.prog 241 #[.pointer (some ⟨g, 0, none⟩), tokV 3 0 ⟨#[45]⟩] w fun r w' => r = .returned (.int .i64 0) ∧ PR w' g q ⟨#[45]⟩ false (.slice none 0 0) u 0 false ⟨#[]⟩ 0 ∧ F2 g q w w' := by
  have HK := Lib.hid fun W (hb : Below w.heap.size w W) => kind_neg W (KL.below hL hb)
  have HB := Lib.hid fun W (hb : Below w.heap.size w W) => begin_neg g q u W (h.go hb)
  clear h hL
  unfold tokV at *
  go_enter Tryz.func241, Tryz.ntmps241
  go_wp2_with fail
  refine (HK.out _ (oalloc _ _)).mono ?_
  rintro e w1 ⟨rfl, hb1⟩
  obtain ⟨hb, hz1, xr⟩ := box_keep hb1
  have x2 : w1.cell? ⟨w.heap.size, 2, none⟩ = some (.string ⟨#[45]⟩) := blk_cell xr rfl
  have HB1 := Lib.hid hb
  clear hb xr hb1
  go_wp2_with (go_at_call 252; refine (HB.out _ HB1.out).mono ?_; rintro e w2 ⟨rfl, h2, h3⟩)
  go_returns
  exact ⟨rfl, h2, (F2.below HB1.out).trans h3⟩

theorem add_sign (g q : Nat) (u : Bool) (w : World) (hL : Xp.KLaid w) (h : PR w g q ⟨#[]⟩ false (.slice none 0 0) u 0 false ⟨#[]⟩ 0) :
    Calls Tryz.prog 220 #[.pointer (some ⟨g, 0, none⟩), tokV 3 0 ⟨#[45]⟩] w fun r w' => r = .returned (.tuple #[]) ∧ PR w' g q ⟨#[45]⟩ false (.slice none 0 0) u 0 false ⟨#[]⟩ 0 ∧ F2 g q w w' := by
  have c1 : w.cell? ⟨g, 1, none⟩ = some (.bool false) := blk_cell h.pt rfl
  have c6 : w.cell? ⟨g, 6, none⟩ = some (.int .i64 0) := blk_cell h.pt rfl
  have hg := blk_lt h.pt
  have HN := Lib.hid fun W (hb : Below w.heap.size w W) => next_sign g q u W (KL.below hL hb) (h.go hb)
  clear h hL
  unfold tokV at *
  go_enter Tryz.func220, Tryz.ntmps220
  go_wp2_with fail
  refine (HN.out _ (oalloc _ _)).mono ?_
  rintro e w1 ⟨rfl, hp1, hb1⟩
  have d6 : w1.cell? ⟨g, 6, none⟩ = some (.int .i64 0) := blk_cell hp1.pt rfl
  have f6 : w1.frozen? ⟨g, 6, none⟩ = false := blk_froz hp1.pt
  have hg1 := blk_lt hp1.pt
  have HP1 := Lib.hid hp1
  have HB1 := Lib.hid hb1
  clear hp1 hb1
  go_wp2
  refine bodyPost_end (v := .tuple #[]) (by simp [results, Tryz.results220, go_sem]) rfl ⟨rfl, ?_, ?_⟩
  · exact HP1.out.go (same_set HP1.out.pt rfl)
  · exact ((F2.below (oalloc _ _)).trans HB1.out).trans (F2.below (same_set HP1.out.pt rfl))


theorem add_num2 (g q : Nat) (u : Bool) (n : Int) (t : ByteArray) (w : World) (hL : Xp.KLaid w) (h : PR w g q ⟨#[45]⟩ false (.slice none 0 0) u 0 false ⟨#[]⟩ 0) :
    Calls Tryz.prog 220 #[.pointer (some ⟨g, 0, none⟩), tokV 2 n t] w fun r w' => r = .returned (.tuple #[]) ∧ PR w' g q ⟨#[]⟩ true (.slice none 0 0) u 0 true ⟨#[]⟩ (wrap32 (-wrap32 n)) ∧ F2 g q w w' := by
  have c1 : w.cell? ⟨g, 1, none⟩ = some (.bool false) := blk_cell h.pt rfl
  have c6 : w.cell? ⟨g, 6, none⟩ = some (.int .i64 0) := blk_cell h.pt rfl
  have hg := blk_lt h.pt
  have HN := Lib.hid fun W (hb : Below w.heap.size w W) => next_neg g q u n t W (KL.below hL hb) (h.go hb)
  clear h hL
  unfold tokV at *
  go_enter Tryz.func220, Tryz.ntmps220
  go_wp2_with fail
  refine (HN.out _ (oalloc _ _)).mono ?_
  rintro e w1 ⟨rfl, hp1, hb1⟩
  have d6 : w1.cell? ⟨g, 6, none⟩ = some (.int .i64 0) := blk_cell hp1.pt rfl
  have f6 : w1.frozen? ⟨g, 6, none⟩ = false := blk_froz hp1.pt
  have hg1 := blk_lt hp1.pt
  have HP1 := Lib.hid hp1
  have HB1 := Lib.hid hb1
  clear hp1 hb1
  go_wp2
  refine bodyPost_end (v := .tuple #[]) (by simp [results, Tryz.results220, go_sem]) rfl ⟨rfl, ?_, ?_⟩
  · exact HP1.out.go (same_set HP1.out.pt rfl)
  · exact ((F2.below (oalloc _ _)).trans HB1.out).trans (F2.below (same_set HP1.out.pt rfl))


end Go.Proofs.YtgjmbjahgcndnaaGreatDoor
