/- asm: the numbers of .byte, .word and .long. asm: one line of numbers read. asm: a pool begun; lines built. -/
import Derived.Test.YtagkmgdjkailkaaGreatDoorPut34
import Derived.Test.YtagkmgdjkailkaaGreatDoorPut35
namespace Go.Proofs.YtagkmgdjkailkaaGreatDoor
open Go.RowKit

set_option maxHeartbeats 4000000 in
set_option maxRecDepth 100000 in
theorem numbers_any (gu B : Nat) (e nv lm pp pv rv : Value) (ln : Int) (its : List It) (size : Int) (ns : List Int) (oa : Option Addr) (oc : Nat) (w0 w : World) (h : UR w B gu e ln nv lm pp pv rv its) (hs : size = 1 ∨ size = 2 ∨ size = 4) (hn0 : 0 < ns.length) (hn : its.length + ns.length ≤ 100000)
    (hrow : w0.ownsRow 0 172 4 (.slice oa ns.length oc) ns.length (opC (ns.map fun n => ⟨⟨#[112]⟩, 0, ⟨#[]⟩, n⟩))) (hw0 : Below w0.heap.size w0 w) (hfit : ∀ n, n ∈ ns → fitsU n (8 * size) = true) :
    Calls Tryz.prog 87 #[.pointer (some ⟨gu, 0, none⟩), .int .i64 size, .slice oa ns.length oc] w fun r w' => r = .returned (.int .i64 0) ∧ UR w' B gu e ln nv lm pp pv rv (its ++ ns.map (numI ln size [])) ∧ Fr gu B w w' ∧ KeepU w w' := by
  have hne : ((ns.length : Int) == 0) = false := beq_eq_false_iff_ne.2 (by omega)
  have H0 := Lib.hid h
  have HR := Lib.hid hrow
  have HW0 := Lib.hid hw0
  have HFIT := Lib.hid hfit
  clear h hrow hw0 hfit
  go_enter Tryz.func87, Tryz.ntmps87
  go_wp2_with fail
  go_loopw [15] (fun iv wr => ∃ k : Nat, k ≤ ns.length ∧ iv = .int .i64 k ∧ Hid (UR wr B gu e ln nv lm pp pv rv (its ++ (ns.take k).map (numI ln size []))) ∧ Hid (Fr gu B w wr) ∧ Hid (KeepU w wr)) (fun iv _ => ns.length - (intOf iv).toNat)
  case atStart => exact ⟨0, Nat.zero_le _, rfl, Lib.hid (by simpa using H0.out), Fr.refl _ _ _, KeepU.refl _⟩
  case round =>
    obtain ⟨k, hk, rfl, HU, HF, HK⟩ := hrel
    by_cases hlt : k < ns.length
    · have hk' : (k : Int) < ns.length := by omega
      have hs1 : 1 ≤ size ∧ size ≤ 4 := by omega
      obtain ⟨g, hoa, hgl, k0, k1, k2, k3⟩ : ∃ g, oa = some ⟨g, 0, none⟩ ∧ g < wr.heap.size ∧ wr.cell? ⟨g, k * 4, none⟩ = some (.string ⟨#[112]⟩) ∧ wr.cell? ⟨g, k * 4 + 1, none⟩ = some (.int .i64 0) ∧ wr.cell? ⟨g, k * 4 + 2, none⟩ = some (.string ⟨#[]⟩) ∧ wr.cell? ⟨g, k * 4 + 3, none⟩ = some (.int .i64 ns[k]) := by
        rcases id HR.out.2 with ⟨hv, h0⟩ | ⟨g, cap, cur, hv, hg, hgg, _⟩
        · omega
        · injection hv with e1 _ _
          subst e1
          have hgw : wr.heap[g]? = some (.cells cur 172 (0, 0)) := HK.out.2 _ _ _ _ (by rw [HW0.out.block g (blk_lt hgg)]; exact hgg) (by decide)
          have hcc : ∀ j, wr.cell? ⟨g, j, none⟩ = w0.cell? ⟨g, j, none⟩ := fun j => by simp only [World.cell?, hgw, hgg]
          obtain ⟨a, b, c, d⟩ := opC_at (ns.map fun n => (⟨⟨#[112]⟩, 0, ⟨#[]⟩, n⟩ : Opd)) k (by simpa using hlt)
          have hadd : ∀ j, (⟨g, 0, none⟩ : Addr).add j = ⟨g, 0 + j, none⟩ := fun j => by unfold Addr.add; split <;> simp_all
          have q0 := HR.out.cells rfl _ _ a
          have q1 := HR.out.cells rfl _ _ b
          have q2 := HR.out.cells rfl _ _ c
          have q3 := HR.out.cells rfl _ _ d
          rw [hadd, Nat.zero_add, ← hcc] at q0 q1 q2 q3
          simp only [List.getElem_map] at q0 q1 q2 q3
          exact ⟨g, rfl, blk_lt hgw, q0, q1, q2, q3⟩
      subst hoa
      obtain ⟨n, hnk⟩ : ∃ n, ns[k]'hlt = n := ⟨_, rfl⟩
      rw [hnk] at k3
      have hft : fitsU n (8 * size) = true := HFIT.out n (by rw [← hnk]; exact List.getElem_mem _)
      have HFI : Hid (∀ W, Calls Tryz.prog 126 #[.int .i64 n, .int .i64 (8 * size)] W fun r w' => r = .returned (.bool true) ∧ w' = W) := fun W => by
        have := fitsA_any n (8 * size) (by omega) W
        rwa [hft] at this
      have HT : Hid (its ++ (ns.take (k + 1)).map (numI ln size []) = (its ++ (ns.take k).map (numI ln size [])) ++ [numI ln size [] n]) := by
        unfold Hid
        rw [List.take_succ_eq_append_getElem hlt, hnk]
        simp
      have HNU := Lib.hid fun W => numberI_any ⟨gu, 0, none⟩ size ⟨#[]⟩ n W
      clear hnk hft
      go_wp2_with (go_at_call 126; refine (HFI.out _).mono ?_; rintro e w1 ⟨rfl, rfl⟩)
      refine (HNU.out _).mono ?_
      rintro e' w2 ⟨⟨gb, gs, gv, rfl, _, x1, x2, x3⟩, hb2⟩
      have hB2 : Below wr.heap.size wr w2 := Below.trans (oalloc _ _) (hb2.mono (by simp))
      have hU2 := HU.out.go hB2
      have HAD := Lib.hid (uadd_any gu B e nv lm pp pv rv _ _ ln 0 (numI ln size [] n) _ w2 hU2 rfl (GenR.num (nm := []) x1 x2 x3) (by simp; omega))
      have HF2 : Hid (Fr gu B w w2) := HF.out.trans (Fr.below (hB2.mono HU.out.le))
      have HK2 : Hid (KeepU w w2) := HK.out.trans (KeepU.of hB2)
      clear x1 x2 x3 hb2 hB2 hU2 HNU HFI HU HF HK
      unfold itV numI at HAD
      unfold itV
      simp only at HAD
      go_wp2_with (go_at_call 47; refine HAD.out.mono ?_; rintro e'' w3 ⟨rfl, hu3, hf3, hk3⟩; have HU3 := Lib.hid hu3; have HF3 := Lib.hid (HF2.out.trans hf3); have HK3 := Lib.hid (HK2.out.trans hk3); clear hu3 hf3 hk3)
      exact ⟨⟨k + 1, by omega, by go_num, Lib.hid (by rw [HT.out]; exact HU3.out), HF3, HK3⟩, by simp [intOf]; omega⟩
    · obtain rfl : k = ns.length := by omega
      have hk' : ¬ ((ns.length : Nat) : Int) < ns.length := by omega
      go_wp2
      go_ret
      have := HU.out
      rw [List.take_length] at this
      exact ⟨rfl, this, HF.out, HK.out⟩

end Go.Proofs.YtagkmgdjkailkaaGreatDoor

namespace Go.Proofs.YtagkmgdjkailkaaGreatDoor
open Go.RowKit

theorem statement_long (gu B : Nat) (e nv lm pp pv rv : Value) (ln : Int) (its : List It) (ns : List Int) (oa : Option Addr) (oc : Nat) (w0 w : World) (h : UR w B gu e ln nv lm pp pv rv its) (hn0 : 0 < ns.length) (hn : its.length + ns.length ≤ 100000)
    (hrow : w0.ownsRow 0 172 4 (.slice oa ns.length oc) ns.length (opC (ns.map fun n => ⟨⟨#[112]⟩, 0, ⟨#[]⟩, n⟩))) (hw0 : Below w0.heap.size w0 w) (hfit : ∀ n, n ∈ ns → fitsU n 32 = true) :
    Calls Tryz.prog 46 #[.pointer (some ⟨gu, 0, none⟩), .string ⟨#[46, 108, 111, 110, 103]⟩, .slice oa ns.length oc] w fun r w' => r = .returned (.int .i64 0) ∧ UR w' B gu e ln nv lm pp pv rv (its ++ ns.map (numI ln 4 [])) ∧ Fr gu B w w' ∧ KeepU w w' := by
  have HN := Lib.hid (numbers_any gu B e nv lm pp pv rv ln its 4 ns oa oc w0 w h (.inr (.inr rfl)) hn0 hn hrow hw0 hfit)
  clear h hrow hw0 hfit
  go_enter Tryz.func46, Tryz.ntmps46
  go_wp2_with (go_at_call 87; refine HN.out.mono ?_; rintro e' w1 ⟨rfl, h1, h2, h3⟩)
  go_ret
  exact ⟨rfl, h1, h2, h3⟩

theorem UR.cell0 {W : World} {B gu : Nat} {e : Value} {ln : Int} {nv lm pp pv rv : Value} {its : List It} (h : UR W B gu e ln nv lm pp pv rv its) : W.cell? ⟨gu, 0, none⟩ = some e := by
  obtain ⟨iv, l, h1, _⟩ := h.its
  exact blk_cell h1 rfl

def tkLong : Tk := ⟨1, 0, ⟨#[46, 108, 111, 110, 103]⟩⟩
def tkNum (n : Int) : Tk := ⟨2, n, ⟨#[]⟩⟩

theorem pieces_one (x : Tk) (h : isComma x = false) : piecesT [x] = [[x]] := by simp [piecesT, splitT, h]

set_option maxHeartbeats 4000000 in
/-- A line of .long and a number. -/
theorem read_long (gu B : Nat) (nv lm pp pv rv : Value) (ln : Int) (its : List It) (v : Value) (n : Int) (w : World) (h : UR w B gu (.slice none 0 0) ln nv lm pp pv rv its) (hv : PReads w v [tkLong, tkNum n]) (hL : Xp.KLaid w) (hG : Sc.Glob w) (hn : its.length + 1 ≤ 100000) :
    Calls Tryz.prog 25 #[.pointer (some ⟨gu, 0, none⟩), v] w fun r w' => r = .returned (.int .i64 0) ∧ UR w' B gu (.slice none 0 0) ln nv lm pp pv rv (its ++ [numI ln 4 [] (wrap32 n)]) ∧ Fr gu B w w' ∧ KeepU w w' := by
  have HLB := Lib.hid (labels_none gu v _ w hv rfl)
  have HN := Lib.hid fun W (hb : Below w.heap.size w W) => next_any v _ W (hv.below hb (Nat.le_refl _))
  have HAW := Lib.hid fun W => aword_any 1 0 ⟨#[46, 108, 111, 110, 103]⟩ W
  have HOP : Hid (∀ v' W0 W, PReads W0 v' [tkNum n] → Below W0.heap.size W0 W → Below w.heap.size w W → Calls Tryz.prog 45 #[.pointer (some ⟨gu, 0, none⟩), v'] W fun r w' => (∃ ov, r = .returned (.tuple #[ov, .int .i64 0]) ∧ w'.ownsRow W.heap.size 172 4 ov 1 (opC [⟨⟨#[112]⟩, 0, ⟨#[]⟩, wrap32 n⟩])) ∧ Below W.heap.size W w') := fun v' W0 W hp hb0 hb => by
    refine operands_any gu v' [tkNum n] [⟨⟨#[112]⟩, 0, ⟨#[]⟩, wrap32 n⟩] W (hp.below hb0 (Nat.le_refl _)) (by simp) (by rw [pieces_one _ rfl]; rfl) ?_
    intro i hi u W2 hb2 hu
    have hi0 : i = 0 := by simp at hi; omega
    subst hi0
    have hu2 : PReads W2 u [tkNum n] := by simpa [pieces_one (tkNum n) rfl] using hu
    have hb3 : Below w.heap.size w W2 := hb.trans (hb2.mono hb.size)
    exact operand_atom gu u (tkNum n) ⟨#[]⟩ (wrap32 n) (.inl ⟨rfl, rfl, rfl⟩) W2 (KL.below hL hb3) (hG.below hb3 hG.sz) hu2 (by rw [hb3.cell (by show gu < w.heap.size; exact Nat.lt_of_lt_of_le h.lt h.le)]; exact h.cell0) (by show regU 2 _ < 0; unfold regU; rw [if_neg (by decide)]; decide)
  have HST : Hid (∀ W W' oa oc, Below w.heap.size w W → W.ownsRow 0 172 4 (.slice oa 1 oc) 1 (opC [⟨⟨#[112]⟩, 0, ⟨#[]⟩, wrap32 n⟩]) → Below W.heap.size W W' → Calls Tryz.prog 46 #[.pointer (some ⟨gu, 0, none⟩), .string ⟨#[46, 108, 111, 110, 103]⟩, .slice oa 1 oc] W' fun r w' => r = .returned (.int .i64 0) ∧ UR w' B gu (.slice none 0 0) ln nv lm pp pv rv (its ++ [numI ln 4 [] (wrap32 n)]) ∧ Fr gu B W' w' ∧ KeepU W' w') := fun W W' oa oc hb hr hb' => by
    have hfit : fitsU (wrap32 n) 32 = true := by unfold fitsU wrap32; simp; omega
    exact statement_long gu B _ nv lm pp pv rv ln its [wrap32 n] oa oc W W' (h.go (hb.trans (hb'.mono hb.size))) (by simp) (by simpa using hn) hr hb' (by intro m hm; simp at hm; subst hm; exact hfit)
  have hle := h.le
  obtain ⟨ad, cap, rfl, _⟩ := hv
  clear h hL hG
  unfold Tk.V tokV at *
  simp only [List.length_cons, List.length_nil, headT, tkLong, List.tail_cons] at *
  go_enter Tryz.func25, Tryz.ntmps25
  go_wp2_with fail
  refine HLB.out.mono ?_
  rintro e w1 ⟨rfl, hb1⟩
  have HB1 := Lib.hid hb1
  clear hb1 HLB
  go_wp2_with fail
  refine (HN.out _ HB1.out).mono ?_
  rintro e w2 ⟨⟨v2, rfl, hv2⟩, hb2⟩
  have hv3 := hv2
  obtain ⟨ad2, cap2, rfl, _⟩ := hv2
  simp only [List.length_singleton] at hv3 ⊢
  have HV := Lib.hid hv3
  have HB2 := Lib.hid (HB1.out.trans (hb2.mono HB1.out.size))
  have HB12 := Lib.hid hb2
  clear hv3 hb2 HN HB1
  go_wp2_with fail
  refine (HAW.out _).mono ?_
  rintro e w3 ⟨rfl, hb3⟩
  obtain ⟨hB3, hz3, xr⟩ := box_keep hb3
  have HB3 := Lib.hid (HB2.out.trans (hB3.mono HB2.out.size))
  have HB13 := Lib.hid (HB12.out.trans (hB3.mono HB12.out.size))
  have XR := Lib.hid xr
  clear hb3 hB3 xr
  go_wp2_with fail
  refine (HOP.out _ _ _ HV.out HB13.out HB3.out).mono ?_
  rintro e w4 ⟨⟨ov, rfl, hr4⟩, hb4⟩
  obtain ⟨oa, oc, hov⟩ := row_shape hr4
  subst hov
  have xr4 := (hb4.block _ hz3).trans XR.out
  have t2 : w4.cell? ⟨w2.heap.size, 2, none⟩ = some (.string ⟨#[46, 108, 111, 110, 103]⟩) := blk_cell xr4 rfl
  have hz4 := blk_lt xr4
  have HB4 := Lib.hid (HB3.out.trans (hb4.mono HB3.out.size))
  have HC := Lib.hid (HST.out w4 w4 oa oc HB4.out (Sc.ownsRow_base hr4 (Nat.zero_le _)) (Below.refl _ _))
  clear hr4 hb4 xr4 XR HST HOP HAW
  go_wp2_with (go_at_call 46; refine HC.out.mono ?_; rintro e w5 ⟨rfl, h1, h2, h3⟩)
  go_ret
  exact ⟨rfl, h1, (Fr.below (HB4.out.mono hle)).trans h2, (KeepU.of HB4.out).trans h3⟩

end Go.Proofs.YtagkmgdjkailkaaGreatDoor

namespace Go.Proofs.YtagkmgdjkailkaaGreatDoor
open Go.RowKit

theorem newPool_any (w : World) : Calls Tryz.prog 24 #[] w fun r w' => (∃ g mb, r = .returned (.pointer (some ⟨g, 0, none⟩)) ∧ w.heap.size ≤ g ∧ w'.heap[g]? = some (.cells #[.int .i64 0, .slice none 0 0, .map (some mb)] 116 (0, 0))) ∧ Below w.heap.size w w' := by
  have hmm : ∀ w, (Instr.makeMap 113 none).run Tryz.prog w = .ok (.map (some w.heap.size)) (w.alloc (.map #[] 0)) := fun w => rfl
  go_enter Tryz.func24, Tryz.ntmps24
  go_wp2_with fail
  go_returns
  exact ⟨⟨w.heap.size + 1, w.heap.size, rfl, by omega, new_at _ _ (by simp)⟩, by go_grown⟩

theorem Fr.low {g B : Nat} {w w' : World} (h : Fr g B w w') (hg : g ≤ B) : Below g w w' := ⟨h.os, h.tape, h.output, h.size, fun i hi => h.block i (by omega) (by omega)⟩

theorem UR.line {w : World} {B gu : Nat} {e : Value} {ln : Int} {nv lm pp pv rv : Value} {its : List It} (h : UR w B gu e ln nv lm pp pv rv its) (p : Int) : UR (w.setCell ⟨gu, 1, none⟩ (.int .i64 p)) B gu e p nv lm pp pv rv its := by
  obtain ⟨iv, l, h1, h2, h3, h4⟩ := h.its
  exact ⟨h.lt, by simpa using h.le, iv, l, blk_set h1, row_set h2 h.lt, h3, fun p hp => (h4 p hp).fr h1 (fun i _ hne => Below.heap_setCell _ _ _ _ hne)⟩

/-- The items of lines of .long. -/
def dataI (l : List (Int × Int)) : List It := l.map fun a => numI a.1 4 [] (wrap32 a.2)

/-- A block that holds no byte is changed. -/
theorem OBytes.set {w : World} {q i : Nat} {c : Array Value} {t : TypeId} {v x : Value} {l : List UInt8} (ho : OBytes w x l) (h : w.heap[q]? = some (.cells c t (0, 0))) (hc : ∀ (j : Nat) (n : Int), c[j]? ≠ some (Value.int .u8 n)) : OBytes (w.setCell ⟨q, i, none⟩ v) x l := by
  obtain ⟨ad, cap, rfl, hm, hl⟩ := ho
  refine ⟨ad, cap, rfl, hm, fun h0 => ?_⟩
  obtain ⟨b, o, rfl, hb, hcell⟩ := hl h0
  have hne : b ≠ q := by
    intro e
    subst e
    have := hcell 0 h0
    simp only [World.cell?, h] at this
    exact hc (o + 0) _ (by simpa using this)
  refine ⟨b, o, rfl, by simpa using hb, fun j hj => ?_⟩
  have hk : (w.setCell ⟨q, i, none⟩ v).heap[b]? = w.heap[b]? := Below.heap_setCell _ _ _ _ hne
  have := hcell j hj
  simp only [World.cell?, hk] at this ⊢
  exact this

/-- What write answers of such items, as its contract will say. -/
def WritesTo (its : List It) (code : List UInt8) : Prop := ∀ (gu B gp : Nat) (lm pp : Value) (ln : Int) (W : World), UR W B gu (.slice none 0 0) ln (.slice none 0 0) lm pp (.slice (some ⟨gp, 0, none⟩) (its.length + 1) (its.length + 1)) (.slice none 0 0) its → PlR W gp its.length (its.length + 1) (tellU 0 its) →
  Calls Tryz.prog 28 #[.pointer (some ⟨gu, 0, none⟩)] W fun r w' => (∃ ca cl cc, r = .returned (.tuple #[.agg #[.slice ca cl cc, .slice none 0 0, .slice none 0 0], .agg #[.int .i64 0, .int .i64 0]]) ∧ OBytes w' (.slice ca cl cc) code) ∧ Below W.heap.size W w'

theorem dataI_laid (l : List (Int × Int)) : ∀ x, x ∈ dataI l → Laid1 x := by
  intro x hx
  obtain ⟨a, _, rfl⟩ := List.mem_map.1 hx
  exact ⟨by show (0 : Int) ≤ 4; decide, by show (4 : Int) ≤ 6; decide, by show (1 : Int) ≤ 1; decide, by show (1 : Int) ≤ 16; decide⟩
theorem dataI_last (l : List (Int × Int)) : (tellU 0 (dataI l)).getD (dataI l).length 0 = 4 * l.length := by
  have e : dataI l = longI (l.map fun a => (a.1, wrap32 a.2)) := by simp [dataI, longI]
  have := tell_long (l.map fun a => (a.1, wrap32 a.2)) 0 l.length (by omega) (by simp)
  rw [e]
  simp only [longI, List.length_map] at this ⊢
  simpa using this

set_option maxHeartbeats 4000000 in
set_option maxRecDepth 100000 in
/-- Lines of .long built; lengthen's and write's contracts handed in. -/
theorem build_data (v : Value) (l : List (Int × Int)) (code : List UInt8) (w : World) (h : LRd w v (l.map fun a => (a.1, [tkLong, tkNum a.2]))) (hL : Xp.KLaid w) (hG : Sc.Glob w) (hn : l.length ≤ 1000) (hNL : ∀ gu B e nv lm pp rv ln, NoLong gu B e nv lm pp rv ln (dataI l)) (hW : WritesTo (dataI l) code) :
    Calls Tryz.prog 15 #[v, .slice none 0 0] w fun r w' => (∃ ca cl cc, r = .returned (.tuple #[.agg #[.slice ca cl cc, .slice none 0 0, .slice none 0 0], .agg #[.int .i64 0, .int .i64 0]]) ∧ OBytes w' (.slice ca cl cc) code) ∧ Below w.heap.size w w' := by
  have HNL := Lib.hid hNL
  have HWR := Lib.hid hW
  clear hNL hW
  have hmm : ∀ w, (Instr.makeMap 74 none).run Tryz.prog w = .ok (.map (some w.heap.size)) (w.alloc (.map #[] 0)) := fun w => rfl
  obtain ⟨va, vc, rfl, _⟩ := id h
  have HV := Lib.hid h
  have HL := Lib.hid hL
  have HG := Lib.hid hG
  clear h hL hG
  simp only [List.length_map] at *
  go_enter Tryz.func15, Tryz.ntmps15
  go_wp2_with fail
  refine (newPool_any _).mono ?_
  rintro e w1 ⟨⟨gp, mb, rfl, hgp, hpl⟩, hb1⟩
  have hB1 : Below w.heap.size w w1 := Below.trans (by go_grown) (hb1.mono (by go_size))
  have x0 : w1.heap[w.heap.size]? = some (.cells #[.slice none 0 0, .slice none 0 0, .slice none 0 0] 28 (0, 0)) := by
    rw [hb1.block _ (by go_size), old2 _ _ (by go_size), old2 _ _ (by go_size)]
    exact new_at _ _ rfl
  have x1 : w1.heap[w.heap.size + 1]? = some (.cells #[.int .i64 0, .int .i64 0] 31 (0, 0)) := by
    rw [hb1.block _ (by go_size), old2 _ _ (by go_size)]
    exact new_at _ _ (by go_size)
  have hz1 : w.heap.size + 3 ≤ w1.heap.size := Nat.le_trans (by simp) hb1.size
  have HB1 := Lib.hid hB1
  have X0 := Lib.hid x0
  have X1 := Lib.hid x1
  have HPL := Lib.hid hpl
  clear hb1 hB1 x0 x1 hpl
  go_wp2_with fail
  have hU0 : UR (w1.alloc (.cells #[.slice none 0 0, .int .i64 0, .slice none 0 0, .map (some (w.heap.size + 1 + 1)), .slice none 0 0, .pointer (some ⟨gp, 0, none⟩), .slice none 0 0, .slice none 0 0] 79)) (w1.heap.size + 1) w1.heap.size (.slice none 0 0) 0 (.slice none 0 0) (.map (some (w.heap.size + 1 + 1))) (.pointer (some ⟨gp, 0, none⟩)) (.slice none 0 0) (.slice none 0 0) [] := ⟨by omega, by simp, .slice none 0 0, [], new_at _ _ rfl, World.ownsRow_nil _ _ _ _, rfl, fun p hp => by simp at hp⟩
  have hbA : Below w1.heap.size w1 (w1.alloc (.cells #[.slice none 0 0, .int .i64 0, .slice none 0 0, .map (some (w.heap.size + 1 + 1)), .slice none 0 0, .pointer (some ⟨gp, 0, none⟩), .slice none 0 0, .slice none 0 0] 79)) := oalloc _ _
  have hzA : (w1.alloc (.cells #[.slice none 0 0, .int .i64 0, .slice none 0 0, .map (some (w.heap.size + 1 + 1)), .slice none 0 0, .pointer (some ⟨gp, 0, none⟩), .slice none 0 0, .slice none 0 0] 79)).heap.size = w1.heap.size + 1 := by simp
  generalize w1.alloc (.cells #[.slice none 0 0, .int .i64 0, .slice none 0 0, .map (some (w.heap.size + 1 + 1)), .slice none 0 0, .pointer (some ⟨gp, 0, none⟩), .slice none 0 0, .slice none 0 0] 79) = W1 at *
  have HU0 := Lib.hid hU0
  have HBA := Lib.hid hbA
  have HZA := Lib.hid hzA
  clear hU0 hbA hzA
  go_loopw [17] (fun iv wr => ∃ (k : Nat) (ln : Int), k ≤ l.length ∧ iv = .int .i64 k ∧ Hid (UR wr (w1.heap.size + 1) w1.heap.size (.slice none 0 0) ln (.slice none 0 0) (.map (some (w.heap.size + 1 + 1))) (.pointer (some ⟨gp, 0, none⟩)) (.slice none 0 0) (.slice none 0 0) (dataI (l.take k))) ∧ Hid (Fr w1.heap.size (w1.heap.size + 1) W1 wr)) (fun iv _ => l.length - (intOf iv).toNat)
  case atStart => exact ⟨0, 0, Nat.zero_le _, rfl, HU0, Fr.refl _ _ _⟩
  case round =>
    obtain ⟨k, ln, hk, rfl, HU, HF⟩ := hrel
    have hBw : Below w.heap.size w wr := (HB1.out.trans (HBA.out.mono HB1.out.size)).trans ((HF.out.low (Nat.le_succ _)).mono HB1.out.size)
    by_cases hlt : k < l.length
    · have hk' : (k : Int) < l.length := by omega
      obtain ⟨va', vc', ev, _, hcl⟩ := id HV.out
      simp only [List.length_map] at ev hcl
      injection ev with e1 _ e3
      subst e1 e3
      obtain ⟨b, o, rfl, hbl, hcell⟩ := hcl (by omega)
      obtain ⟨td, tn, tc, r0, r1, r2⟩ := hcell k hlt
      simp only [List.getElem_map] at r1 r2
      obtain ⟨a, ha⟩ : ∃ a, l[k]'hlt = a := ⟨_, rfl⟩
      rw [ha] at r1 r2
      have HT : Hid (dataI (l.take (k + 1)) = dataI (l.take k) ++ [numI a.1 4 [] (wrap32 a.2)]) := by
        unfold Hid
        rw [List.take_succ_eq_append_getElem hlt, ha]
        simp [dataI]
      obtain ⟨p, n⟩ := a
      simp only at r1 r2 HT
      clear ha hcell hcl
      have hgu : w1.heap.size < wr.heap.size := Nat.lt_of_lt_of_le (Nat.lt_succ_self _) HU.out.le
      have c1 : wr.cell? ⟨w1.heap.size, 1, none⟩ = some (.int .i64 ln) := by obtain ⟨iv, ll, k1, _⟩ := HU.out.its; exact blk_cell k1 rfl
      have f1 : wr.frozen? ⟨w1.heap.size, 1, none⟩ = false := by obtain ⟨iv, ll, k1, _⟩ := HU.out.its; exact blk_froz k1
      have hz0 := HB1.out.size
      have HRL : Hid (Calls Tryz.prog 25 #[.pointer (some ⟨w1.heap.size, 0, none⟩), .slice td tn tc] ((wr.setCell ⟨w1.heap.size, 1, none⟩ (.int .i64 p)).alloc (.cells #[.slice td tn tc, .int .i64 p] 83)) fun r w' => r = .returned (.int .i64 0) ∧ UR w' (w1.heap.size + 1) w1.heap.size (.slice none 0 0) p (.slice none 0 0) (.map (some (w.heap.size + 1 + 1))) (.pointer (some ⟨gp, 0, none⟩)) (.slice none 0 0) (.slice none 0 0) (dataI (l.take (k + 1))) ∧ Fr w1.heap.size (w1.heap.size + 1) W1 w') := by
        have hB2 : Below w.heap.size w ((wr.setCell ⟨w1.heap.size, 1, none⟩ (.int .i64 p)).alloc (.cells #[.slice td tn tc, .int .i64 p] 83)) := (hBw.setCell hz0 _).alloc (by simpa using hBw.size) _
        have hU2 := (HU.out.line p).go (oalloc (wr.setCell ⟨w1.heap.size, 1, none⟩ (.int .i64 p)) (.cells #[.slice td tn tc, .int .i64 p] 83))
        have hF2 : Fr w1.heap.size (w1.heap.size + 1) W1 ((wr.setCell ⟨w1.heap.size, 1, none⟩ (.int .i64 p)).alloc (.cells #[.slice td tn tc, .int .i64 p] 83)) := (HF.out.trans (Fr.of (gset _ _ _ _) HU.out.le)).trans (Fr.below ((oalloc _ _).mono (by simpa using HU.out.le)))
        refine (read_long w1.heap.size (w1.heap.size + 1) _ _ _ _ _ p _ (.slice td tn tc) n _ hU2 (r2.below hB2 (Nat.le_refl _)) (KL.below HL.out hB2) (HG.out.below hB2 HG.out.sz) (by simp [dataI]; omega)).mono ?_
        rintro r w' ⟨rfl, h1, h2, _⟩
        exact ⟨rfl, by rw [HT.out]; exact h1, hF2.trans h2⟩
      replace r0 := (hBw.cell (by show b < w.heap.size; exact hbl)).trans r0
      replace r1 := (hBw.cell (by show b < w.heap.size; exact hbl)).trans r1
      have hbr : b < wr.heap.size := Nat.lt_of_lt_of_le hbl hBw.size
      have hbn : b ≠ w1.heap.size := by omega
      clear r2 hBw
      go_wp2_with (go_at_call 25; refine HRL.out.mono ?_; rintro e' w3 ⟨rfl, hu3, hf3⟩; have HU3 := Lib.hid hu3; have HF3 := Lib.hid hf3; clear hu3 hf3)
      exact ⟨⟨k + 1, p, by omega, by go_num, HU3, HF3⟩, by simp [intOf]; omega⟩
    · obtain rfl : k = l.length := by omega
      have hk' : ¬ ((l.length : Nat) : Int) < l.length := by omega
      have hU := HU.out
      rw [List.take_length] at hU
      obtain ⟨iv9, l9, k1, _⟩ := id hU.its
      have hplw : wr.heap[gp]? = some (.cells #[.int .i64 0, .slice none 0 0, .map (some mb)] 116 (0, 0)) := by
        rw [(HF.out.low (Nat.le_succ _)).block gp (blk_lt HPL.out), HBA.out.block gp (blk_lt HPL.out)]
        exact HPL.out
      have HEP := Lib.hid (endPool_none w1.heap.size gp none 0 wr (blk_cell k1 rfl) (blk_cell hplw rfl))
      have hlen : (dataI l).length = l.length := by simp [dataI]
      have HLY := Lib.hid (lay_any w1.heap.size (w1.heap.size + 1) _ _ _ _ _ _ ⟨_, _, _, rfl⟩ ln _ wr hU (by omega) (dataI_laid l) (HNL.out _ _ _ _ _ _ _ _) (by rw [dataI_last]; omega))
      have HX0 : Hid (wr.heap[w.heap.size]? = some (.cells #[.slice none 0 0, .slice none 0 0, .slice none 0 0] 28 (0, 0))) := by
        unfold Hid
        rw [(HF.out.low (Nat.le_succ _)).block _ (by omega), HBA.out.block _ (by omega)]
        exact X0.out
      have HX1 : Hid (wr.heap[w.heap.size + 1]? = some (.cells #[.int .i64 0, .int .i64 0] 31 (0, 0))) := by
        unfold Hid
        rw [(HF.out.low (Nat.le_succ _)).block _ (by omega), HBA.out.block _ (by omega)]
        exact X1.out
      have hgu := blk_lt k1
      have HBw := Lib.hid hBw
      clear hU k1 hplw hlen hBw
      go_wp2_with (first
        | (go_at_call 26; refine HEP.out.mono ?_; rintro e' w4 ⟨rfl, rfl⟩)
        | fail)
      refine HLY.out.mono ?_
      rintro e' w5 ⟨rfl, ⟨gpl, hgpl, hU5, hP5⟩, hF5⟩
      have HC := Lib.hid (HWR.out _ _ _ _ _ _ w5 hU5 hP5)
      have hz4 := HBw.out.size
      have y0 := (hF5.block w.heap.size (blk_lt HX0.out) (by omega)).trans HX0.out
      have y1 := (hF5.block (w.heap.size + 1) (blk_lt HX1.out) (by omega)).trans HX1.out
      have HB5 : Hid (Below w.heap.size w w5) := HBw.out.trans ⟨hF5.os, hF5.tape, hF5.output, hF5.size, fun i hi => hF5.block i (by omega) (by omega)⟩
      have Y0 := Lib.hid y0
      have Y1 := Lib.hid y1
      clear hU5 hP5 hF5 y0 y1 HLY HEP HX0 HX1 HWR HNL
      go_wp2_with (go_at_call 28; refine HC.out.mono ?_; rintro e' w6 ⟨⟨ca, cl, cc, rfl, hob⟩, hb6⟩; have z0 := (hb6.block _ (blk_lt Y0.out)).trans Y0.out; have z1 := (hb6.block _ (blk_lt Y1.out)).trans Y1.out; have g0 : w6.cell? ⟨w.heap.size, 0, none⟩ = some (.slice none 0 0) := blk_cell z0 rfl; have g1 : w6.cell? ⟨w.heap.size, 1, none⟩ = some (.slice none 0 0) := blk_cell z0 rfl; have g2 : w6.cell? ⟨w.heap.size, 2, none⟩ = some (.slice none 0 0) := blk_cell z0 rfl; have q0 : w6.frozen? ⟨w.heap.size, 0, none⟩ = false := blk_froz z0; have q1 : w6.frozen? ⟨w.heap.size, 1, none⟩ = false := blk_froz z0; have q2 : w6.frozen? ⟨w.heap.size, 2, none⟩ = false := blk_froz z0; obtain ⟨⟨u0, u1⟩, t0, t1⟩ := var2_of z1; have HOB := Lib.hid hob; have HB6 := Lib.hid (HB5.out.trans (hb6.mono HB5.out.size)); have Z0 := Lib.hid z0; have Z1 := Lib.hid z1; clear hob hb6 z0 z1)
      have n3 : ∀ (x y z : Option Addr) (a b c d e f : Nat) (j : Nat) (n : Int), (#[Value.slice x a b, .slice y c d, .slice z e f] : Array Value)[j]? ≠ some (.int .u8 n) := by
        intro x y z a b c d e f j n h
        rcases j with _ | _ | _ | j <;> simp at h
      have o1 := OBytes.set (i := 0) (v := .slice ca cl cc) HOB.out Z0.out (n3 _ _ _ _ _ _ _ _ _)
      have z1 := blk_set (i := 0) (v := .slice ca cl cc) Z0.out
      have o2 := OBytes.set (i := 1) (v := .slice none 0 0) o1 z1 (n3 _ _ _ _ _ _ _ _ _)
      have z2 := blk_set (i := 1) (v := .slice none 0 0) z1
      have o3 := OBytes.set (i := 2) (v := .slice none 0 0) o2 z2 (n3 _ _ _ _ _ _ _ _ _)
      have Z1b : (((w6.setCell ⟨w.heap.size, 0, none⟩ (.slice ca cl cc)).setCell ⟨w.heap.size, 1, none⟩ (.slice none 0 0)).setCell ⟨w.heap.size, 2, none⟩ (.slice none 0 0)).heap[w.heap.size + 1]? = some (.cells #[.int .i64 0, .int .i64 0] 31 (0, 0)) := by
        rw [Below.heap_setCell _ _ _ _ (by show w.heap.size + 1 ≠ w.heap.size; omega), Below.heap_setCell _ _ _ _ (by show w.heap.size + 1 ≠ w.heap.size; omega), Below.heap_setCell _ _ _ _ (by show w.heap.size + 1 ≠ w.heap.size; omega)]
        exact Z1.out
      refine bodyPost_ret (v := .tuple #[.agg #[.slice ca cl cc, .slice none 0 0, .slice none 0 0], .agg #[.int .i64 0, .int .i64 0]]) (by simp [results, Tryz.results15, go_sem, g0, g1, g2, u0, u1]) rfl ⟨⟨ca, cl, cc, rfl, ?_⟩, ?_⟩
      · exact o3.below ((same_set Z1b rfl).trans (same_set (same_blk Z1b rfl) rfl)) (Nat.le_refl _)
      · exact ((((HB6.out.setCell (Nat.le_refl _) _).setCell (Nat.le_refl _) _).setCell (Nat.le_refl _) _).setCell (Nat.le_succ _) _).setCell (Nat.le_succ _) _

end Go.Proofs.YtagkmgdjkailkaaGreatDoor
