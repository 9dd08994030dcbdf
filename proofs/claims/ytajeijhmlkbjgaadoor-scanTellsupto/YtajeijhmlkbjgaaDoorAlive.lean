/- What is asked first: alive answers true. -/
import Derived.Test.YtajeijhmlkbjgaaDoorNameA
namespace Go.Proofs.YtajeijhmlkbjgaaDoor
open Go.RowKit

def aA : List UInt8 := [97, 58, 32, 97, 100, 100, 32, 35, 48, 120, 49, 48, 44, 114, 49, 32, 59, 32, 120]
def aT : List Tok := [⟨1, 0, [97]⟩, ⟨3, 0, [58]⟩, ⟨1, 0, [97, 100, 100]⟩, ⟨3, 0, [35]⟩, ⟨2, 16, []⟩, ⟨3, 0, [44]⟩, ⟨1, 0, [114, 49]⟩]
def aB : List UInt8 := [110, 111, 112, 10, 10, 114, 116, 115]
def aL : List Ln := [⟨1, [⟨1, 0, [110, 111, 112]⟩]⟩, ⟨3, [⟨1, 0, [114, 116, 115]⟩]⟩]

theorem aA_list : lineList aA = aT := by kernel_rfl
theorem aA_err : lineErr aA = 0 := by kernel_rfl
theorem aB_list : srcList aB = aL := by kernel_rfl
theorem aB_err : srcErr aB = 0 := by kernel_rfl
theorem aB_at : srcAt aB = 0 := by kernel_rfl
theorem aP : printL (aT.take 2) = [97, 32, 58] := by kernel_rfl
theorem aN1 : nameR [97, 98, 95, 49] = true := by kernel_rfl
theorem aN2 : nameR [46, 120] = false := by kernel_rfl

theorem lcells_at : ∀ (ps : List (Ln × Value)) (i : Nat) (h : i < ps.length), (lcells ps)[i * 2]? = some (.int .i64 ps[i].1.pos) ∧ (lcells ps)[i * 2 + 1]? = some ps[i].2
  | [], i, h => by simp at h
  | p :: r, 0, _ => ⟨rfl, rfl⟩
  | p :: r, i + 1, h => by
    have ih := lcells_at r i (by simpa using h)
    have e : lcells (p :: r) = [.int .i64 p.1.pos, p.2] ++ lcells r := rfl
    rw [e]
    refine ⟨?_, ?_⟩
    · rw [List.getElem?_append_right (by simp; omega)]; simpa [Nat.add_mul] using ih.1
    · rw [List.getElem?_append_right (by simp; omega), show (i + 1) * 2 + 1 - [Value.int .i64 p.1.pos, p.2].length = i * 2 + 1 by simp; omega]; exact ih.2

theorem reads_of_lown {w : World} {base : Nat} {v : Value} {ps : List (Ln × Value)} (h : LOwn w base v ps) : LReads w v (ps.map (·.1)) := by
  have hr := h.row
  have hl : (ps.map (·.1)).length = ps.length := by simp
  rcases hr.2 with ⟨rfl, hn⟩ | ⟨g, cap, cur, rfl, _, hg, hle, hm, _⟩
  · exact ⟨none, 0, by rw [hl, hn], by rw [hl, hn]; exact Nat.zero_le _, fun h0 => by omega⟩
  · refine ⟨_, cap, by rw [hl], by rw [hl]; exact Nat.le_trans hle hm, fun _ => ⟨g, 0, rfl, (Array.getElem?_eq_some_iff.1 hg).1, fun i hi => ?_⟩⟩
    rw [hl] at hi
    have ha := lcells_at ps i hi
    have hadd : ∀ j, (⟨g, 0, none⟩ : Addr).add j = ⟨g, 0 + j, none⟩ := fun j => by unfold Addr.add; split <;> simp_all
    have x0 := hr.cells rfl _ _ ha.1
    have x1 := hr.cells rfl _ _ ha.2
    rw [hadd] at x0 x1
    have e : (ps.map (·.1))[i] = ps[i].1 := by simp
    rw [e]
    exact ⟨x0, ps[i].2, x1, reads_of_owns (h.toks ps[i] (List.getElem_mem hi))⟩

def c8 : Array Value := #[.int .u8 110, .int .u8 111, .int .u8 112, .int .u8 10, .int .u8 10, .int .u8 114, .int .u8 116, .int .u8 115]

theorem conv_lit (w : World) : ∃ W' : World, (convert 24 24 (.slice (some ⟨w.heap.size, 0, none⟩) 8 8)).run Tryd.prog (w.alloc (.cells c8 5)) = .ok (.slice (some ⟨w.heap.size, 0, none⟩) 8 8) W' ∧ Below w.heap.size w W' ∧ BReads W' (.slice (some ⟨w.heap.size, 0, none⟩) 8 8) aB := by
  have hsh : (w.alloc (.cells c8 5)).shape? w.heap.size = some (5, 8) := by
    simp [World.shape?, World.alloc, -World.alloc_eq, c8]
  have hnew : ((w.alloc (.cells c8 5)).freeze ⟨w.heap.size, 8, none⟩ 1).heap[w.heap.size]? = some (.cells c8 5 (8, 9)) := by
    simp [World.freeze, World.alloc, -World.alloc_eq]
    rw [Array.getElem_modify_self]
    simp
  have hlt : w.heap.size < ((w.alloc (.cells c8 5)).freeze ⟨w.heap.size, 8, none⟩ 1).heap.size := (Array.getElem?_eq_some_iff.1 hnew).1
  refine ⟨(w.alloc (.cells c8 5)).freeze ⟨w.heap.size, 8, none⟩ 1, ?_, ?_, ?_⟩
  · simp [convert, run_underlying Tryd.underlying24, run_underlying Tryd.underlying5, markStringish, hsh, Result.andThen]
  · exact Lib.below_freeze ((Below.refl _ w).alloc (Nat.le_refl _) _) (p := ⟨w.heap.size, _, none⟩) (Nat.le_refl _) 1
  · refine ⟨_, 8, rfl, by decide, fun _ => ⟨w.heap.size, 0, rfl, hlt, fun i hi => ?_⟩⟩
    have hc : ((w.alloc (.cells c8 5)).freeze ⟨w.heap.size, 8, none⟩ 1).cell? ⟨w.heap.size, 0 + i, none⟩ = c8[0 + i]? := by
      unfold World.cell?
      simp only [hnew]
      rfl
    rw [hc]
    have hi8 : i < 8 := hi
    match i, hi8 with
    | 0, _ => rfl
    | 1, _ => rfl
    | 2, _ => rfl
    | 3, _ => rfl
    | 4, _ => rfl
    | 5, _ => rfl
    | 6, _ => rfl
    | 7, _ => rfl

theorem LReads.below {w w' : World} {B : Nat} {v : Value} {ls : List Ln} (h : LReads w v ls) (hb : Below B w w') (hB : w.heap.size ≤ B) : LReads w' v ls := by
  obtain ⟨ad, cap, rfl, hm, hc⟩ := h
  refine ⟨ad, cap, rfl, hm, fun h0 => ?_⟩
  obtain ⟨b, o, rfl, hlt, hcell⟩ := hc h0
  refine ⟨b, o, rfl, Nat.lt_of_lt_of_le hlt hb.size, fun i hi => ?_⟩
  obtain ⟨x0, tv, x1, htr⟩ := hcell i hi
  refine ⟨?_, tv, ?_, htr.below hb hB⟩
  · rw [hb.cell (by show b < B; omega)]; exact x0
  · rw [hb.cell (by show b < B; omega)]; exact x1

theorem aFit : Fits (aT.take 2) := by
  intro i hi
  have hi2 : i < 2 := hi
  match i, hi2 with
  | 0, _ => exact ⟨by show (-9223372036854775808 : Int) ≤ 0; omega, by show (0 : Int) ≤ 9223372036854775807; omega⟩
  | 1, _ => exact ⟨by show (-9223372036854775808 : Int) ≤ 0; omega, by show (0 : Int) ≤ 9223372036854775807; omega⟩

theorem aFew : ∀ i (h : i < aL.length), aL[i].toks.length ≤ 8796093022208 := by
  intro i hi
  have hi2 : i < 2 := hi
  match i, hi2 with
  | 0, _ => show 1 ≤ 8796093022208; omega
  | 1, _ => show 1 ≤ 8796093022208; omega

set_option maxHeartbeats 2000000 in
set_option maxRecDepth 100000 in
theorem alive_any (w : World) (hG : Glob w) :
    Calls Tryd.prog 38 #[] w fun e w' => e = .returned (.bool true) ∧ Below w.heap.size w w' := by
  have hsz := hG.sz
  go_enter Tryd.func38, Tryd.ntmps38
  go_wp2_with fail
  refine (tokens_any ⟨aA.toArray⟩ w hG).mono ?_
  rintro e w1 ⟨⟨tv, rfl, hown⟩, hb1⟩
  rw [show lineErr (⟨aA.toArray⟩ : ByteArray).data.toList = 0 from aA_err]
  rw [show lineList (⟨aA.toArray⟩ : ByteArray).data.toList = aT from aA_list] at hown
  have hG1 : Glob w1 := hG.below hb1 hsz
  obtain ⟨W', hcv, hbW, hBR⟩ := conv_lit w1
  unfold c8 at hcv
  go_wp2_with fail
  refine (lines_any _ aB W' (hG1.below hbW hG1.sz) hBR).mono ?_
  rintro e w2 ⟨⟨lv, ps, rfl, hps, hlo⟩, hb2⟩
  rw [aB_err, aB_at]
  rw [aB_list] at hps
  have hlr : LReads w2 lv aL := hps ▸ reads_of_lown hlo
  have hbw : Below w1.heap.size w1 w2 := hbW.trans (hb2.mono hbW.size)
  have htr : TReads w2 tv aT := (reads_of_owns hown).below hbw (Nat.le_refl _)
  have hcap : ∃ ad cap, tv = .slice ad 7 cap ∧ 7 ≤ cap := by
    rcases hown.2 with ⟨rfl, hn⟩ | ⟨g, cap, cur, rfl, _, _, hle, _⟩
    · simp [aT] at hn
    · exact ⟨_, cap, rfl, hle⟩
  have hG2 : Glob w2 := hG1.below hbw hG1.sz
  have HB2 : Hid (Below w.heap.size w w2) := hb1.trans (hbw.mono hb1.size)
  obtain ⟨ad0, cap0, rfl, hc7⟩ := hcap
  obtain ⟨ad, cap, etv, _, hcell⟩ := htr
  obtain ⟨b, o, ead, hbl, hcs⟩ := hcell (by decide)
  have ead2 : ad0 = some ⟨b, o, none⟩ := by injection etv with e1 _ _; rw [e1, ead]
  subst ead2
  obtain ⟨t0, t1, t2⟩ := hcs 0 (by decide)
  obtain ⟨t3, t4, t5⟩ := hcs 1 (by decide)
  obtain ⟨_, t16, _⟩ := hcs 4 (by decide)
  have hlr2 := hlr
  obtain ⟨ld, lc, rfl, _, hlcell⟩ := hlr
  obtain ⟨lb, lo, rfl, hlb, hlcs⟩ := hlcell (by decide)
  obtain ⟨p3, _⟩ := hlcs 1 (by decide)
  have HRd : Hid (TReads w2 (.slice (some ⟨b, o, none⟩) 2 cap0) (aT.take 2)) := by
    refine ⟨_, cap0, rfl, by decide, fun _ => ⟨b, o, rfl, hbl, fun i hi => ?_⟩⟩
    have hi2 : i < 2 := hi
    match i, hi2 with
    | 0, _ => exact ⟨t0, t1, t2⟩
    | 1, _ => exact ⟨t3, t4, t5⟩
  have HLr : Hid (LReads w2 (.slice (some ⟨lb, lo, none⟩) aL.length lc) aL) := hlr2
  have e16 : w2.cell? ⟨b, o + 4 * 3 + 1, none⟩ = some (.int .i64 16) := t16
  have e3 : w2.cell? ⟨lb, lo + 1 * 2, none⟩ = some (.int .i64 3) := p3
  have HG2 : Hid (Glob w2) := hG2
  have hLen : aL.length = 2 := rfl
  rw [hLen] at HLr ⊢
  have hc7' : (2 : Int) ≤ cap0 := by omega
  clear hlr2 hlcell hlcs hcell hcs t0 t1 t2 t3 t4 t5 t16 p3 hps hlo hown hbw hb1 hb2 hG hG1 hG2 etv ead hcv hbW hBR
  have hN1 : ∀ w, Calls Tryd.prog 30 #[.string ⟨#[97, 98, 95, 49]⟩] w fun e w' => e = .returned (.bool true) ∧ w' = w := fun w => by
    have := name_any ⟨#[97, 98, 95, 49]⟩ w
    rw [show nameR (⟨#[97, 98, 95, 49]⟩ : ByteArray).data.toList = true from aN1] at this
    exact this
  have hN2 : ∀ w, Calls Tryd.prog 30 #[.string ⟨#[46, 120]⟩] w fun e w' => e = .returned (.bool false) ∧ w' = w := fun w => by
    have := name_any ⟨#[46, 120]⟩ w
    rw [show nameR (⟨#[46, 120]⟩ : ByteArray).data.toList = false from aN2] at this
    exact this
  go_wp2_with fail
  refine (hN1 _).mono ?_
  rintro e w3 ⟨rfl, rfl⟩
  go_wp2_with fail
  refine (hN2 _).mono ?_
  rintro e w3 ⟨rfl, rfl⟩
  go_wp2_with fail
  have hbA : Below w2.heap.size w2 (w2.alloc (.cells #[.int .i64 0, .int .i64 0] 57)) := (Below.refl _ _).alloc (Nat.le_refl _) _
  have hpr := print_any (.slice (some ⟨b, o, none⟩) 2 cap0) (aT.take 2) (w2.alloc (.cells #[.int .i64 0, .int .i64 0] 57)) (HG2.out.below hbA HG2.out.sz) (HRd.out.below hbA (Nat.le_refl _)) (by decide) aFit (by rw [aP]; decide)
  rw [aP] at hpr
  refine hpr.mono ?_
  rintro e w4 ⟨rfl, hb4⟩
  have HB4 : Hid (Below w.heap.size w w4) := (HB2.out.trans (hbA.mono HB2.out.size)).trans (hb4.mono (by have := HB2.out.size; simp; omega))
  have HL4 : Hid (LReads w4 (.slice (some ⟨lb, lo, none⟩) 2 lc) aL) := by
    exact (HLr.out.below hbA (Nat.le_refl _)).below hb4 (Nat.le_refl _)
  clear hpr hb4 hbA
  go_wp2_with fail
  refine (own_any _ aL w4 HL4.out (by decide) aFew).mono ?_
  rintro e w5 ⟨rfl, _, _, hb5⟩
  rw [hLen]
  have HB5 : Hid (Below w.heap.size w w5) := HB4.out.trans (hb5.mono HB4.out.size)
  clear hb5
  go_wp2
  go_ret
  exact ⟨rfl, HB5.out⟩

end Go.Proofs.YtajeijhmlkbjgaaDoor
