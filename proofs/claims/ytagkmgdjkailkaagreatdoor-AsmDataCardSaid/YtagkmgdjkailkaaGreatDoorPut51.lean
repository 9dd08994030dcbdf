/- pllaw5.AsmData's own walk. What the listed variables' reading gives: the two tables' cells. What the listed variables' reading gives: the table of package expr. -/
import Derived.Test.YtagkmgdjkailkaaGreatDoorPut50
import Derived.Lib.ConvBytes
import Derived.Lib.AtoiErrMem
import Derived.Test.YtagkmgdjkailkaaGreatDoorPut26
import Derived.ProofKit
import Derived.LaidMore
import Derived.Deep.Strs
import Derived.Lib.SmallJoins
import Derived.Test.YtagkmgdjkailkaaGreatDoorPut9
namespace Go.Proofs.YtagkmgdjkailkaaGreatDoor
open Go.RowKit Go.Maps Go.MapKept

/-- A slice of whole numbers. -/
def IRd (w : World) (a : Option Addr) (l : List Int) : Prop := (∀ n, n ∈ l → -9223372036854775808 ≤ n ∧ n ≤ 9223372036854775807) ∧ l.length ≤ 140737488351232 ∧ (0 < l.length → ∃ b o, a = some ⟨b, o, none⟩ ∧ b < w.heap.size ∧ ∀ i (h : i < l.length), w.cell? ⟨b, o + i, none⟩ = some (.int .i64 l[i]))

theorem AllLaid.next {w w' : World} (h : AllLaid w) (hb : Below w.heap.size w w') : AllLaid w' := ⟨h.isa.below hb h.isa.sz, h.frm.below hb h.frm.sz, KL.below h.ex hb, h.gl.below hb h.gl.sz⟩

theorem itoa_of (n : Int) (h0 : -9223372036854775808 ≤ n) (h1 : n ≤ 9223372036854775807) (w : World) (hG : Sc.Glob w) :
    Calls Tryz.prog 6 #[.int .i64 n] w fun e w' => e = .returned (.string ⟨(Lib.itoa n).toArray⟩) ∧ Below w.heap.size w w' := by
  refine (Tryz.strconv_Itoa n h0 h1 w hG.tab).mono ?_
  rintro e w' ⟨rfl, k, os, rfl⟩
  exact ⟨rfl, Lib.below_grow _ w (Nat.le_refl _) k os⟩

set_option maxHeartbeats 8000000 in
set_option maxRecDepth 100000 in
theorem data_any (a : Option Addr) (cap : Nat) (l : List Int) (w : World) (hA : AllLaid w) (hl : IRd w a l) :
    Calls Tryz.prog 4 #[.slice a l.length cap] w fun e w' => e = .returned (.bool true) ∧ Below w.heap.size w w' := by
  have HA := Lib.hid hA
  have HL := Lib.hid hl
  have hln := hl.2.1
  clear hA hl
  have HAL := Lib.hid (alive_any w HA.out)
  go_enter Tryz.func4, Tryz.ntmps4
  go_wp2_with (go_at_call 5; refine HAL.out.mono ?_; rintro e w1 ⟨rfl, hb1⟩; have HB1 := Lib.hid hb1; clear hb1)
  go_loopw [3, 14] (fun sv iv wr => ∃ k : Nat, k ≤ l.length ∧ iv = .int .i64 k ∧ sv = .string ⟨(Sc.dataS (l.take k)).toArray⟩ ∧ Hid (∀ n, n ∈ l.take k → 0 ≤ n ∧ n < 4294967296) ∧ Hid (Below w.heap.size w wr)) (fun _ iv _ => l.length - (intOf iv).toNat)
  case atStart => exact ⟨0, Nat.zero_le _, rfl, rfl, by unfold Hid; simp, HB1⟩
  case round =>
    obtain ⟨k, hk, rfl, rfl, HR, HB⟩ := hrel
    have hsl := Sc.dataS_len _ HR.out
    rw [List.length_take] at hsl
    by_cases hlt : k < l.length
    · have hk' : (k : Int) < l.length := by omega
      obtain ⟨hrg, _, hcl⟩ := id HL.out
      obtain ⟨b, o, rfl, hbl, hcell⟩ := hcl (by omega)
      have r0 := hcell k hlt
      obtain ⟨hn0, hn1⟩ := hrg l[k] (List.getElem_mem _)
      obtain ⟨n, hn⟩ : ∃ n, l[k] = n := ⟨_, rfl⟩
      rw [hn] at r0 hn0 hn1
      replace r0 := (HB.out.cell (by show b < w.heap.size; exact hbl)).trans r0
      have hbr : b < wr.heap.size := Nat.lt_of_lt_of_le hbl HB.out.size
      clear hcell hcl hrg
      by_cases g0 : n < 0
      · go_wp2_with fail
        go_ret
        exact ⟨rfl, HB.out⟩
      · by_cases g1 : n ≥ 4294967296
        · have g1' : 4294967296 ≤ n := g1
          go_wp2_with fail
          go_ret
          exact ⟨rfl, HB.out⟩
        · have HT : Hid (Sc.dataS (l.take (k + 1)) = Sc.dataS (l.take k) ++ (Sc.dataL n ++ [10])) := by
            unfold Hid
            rw [List.take_succ_eq_append_getElem hlt, hn]
            simp [Sc.dataS]
          have HR2 : Hid (∀ n, n ∈ l.take (k + 1) → 0 ≤ n ∧ n < 4294967296) := by
            unfold Hid
            rw [List.take_succ_eq_append_getElem hlt, hn]
            intro m hm
            rcases List.mem_append.1 hm with hm | hm
            · exact HR.out m hm
            · obtain rfl := List.mem_singleton.1 hm
              omega
          have HIT := Lib.hid fun W (hb : Below w.heap.size w W) => itoa_of n hn0 hn1 W (HA.out.gl.below hb HA.out.gl.sz)
          have hil := Lib.itoa_length_le n hn0 hn1
          have HIE : Hid (Sc.dataL n = [46, 108, 111, 110, 103, 32] ++ Lib.itoa n) := rfl
          generalize Lib.itoa n = it at *
          generalize Sc.dataS (l.take k) = ds at *
          go_wp2_with (go_at_call 6; refine (HIT.out _ HB.out).mono ?_; rintro e w2 ⟨rfl, hb2⟩; have HB2 := Lib.hid (HB.out.trans (hb2.mono HB.out.size)); clear hb2)
          refine ⟨⟨k + 1, by omega, by go_num, ?_, HR2, HB2⟩, by simp [intOf]; omega⟩
          rw [HT.out, HIE.out]
          exact congrArg Value.string (ByteArray.ext (by simp [ByteArray.data_append]))
    · obtain rfl : k = l.length := by omega
      have hk' : ¬ ((l.length : Nat) : Int) < l.length := by omega
      rw [List.take_length] at HR hsl ⊢
      by_cases h40 : l.length > 40
      · have h40' : (40 : Int) < l.length := by omega
        go_wp2_with fail
        go_ret
        exact ⟨rfl, HB.out⟩
      · have h40' : ¬ (40 : Int) < l.length := by omega
        have hcv := Lib.run_convert_string_bytes (P := Tryz.prog) wr 9 24 5 ⟨(Sc.dataS l).toArray⟩ Tryz.underlying9 Tryz.underlying24 Tryz.underlying5
        go_wp2_with fail
        have hbW : Below wr.heap.size wr (Lib.bytesWorld wr 5 ⟨(Sc.dataS l).toArray⟩) := Lib.bytesWorld_below _ _ _
        have hbr : Sc.BReads (Lib.bytesWorld wr 5 ⟨(Sc.dataS l).toArray⟩) (.slice (some ⟨wr.heap.size, 0, none⟩) (Sc.dataS l).length (grownCap wr (Sc.dataS l).length 0 5)) (Sc.dataS l) := by
          refine ⟨_, _, rfl, by unfold maxLen; omega, fun _ => ⟨_, _, rfl, by rw [Lib.bytesWorld_size]; omega, fun i hi => ?_⟩⟩
          rw [Nat.zero_add, Lib.bytesWorld_cell _ _ _ _ (by simpa [ByteArray.size] using hi)]
          simp [List.getD, hi]
        have hBW : Below w.heap.size w (Lib.bytesWorld wr 5 ⟨(Sc.dataS l).toArray⟩) := HB.out.trans (hbW.mono HB.out.size)
        refine (unit_dat _ l _ (HA.out.next hBW) hbr HR.out (by omega)).mono ?_
        rintro e w3 ⟨⟨ca, cl, cc, sa, sl, sc, qa, ql, qc, rfl, hob⟩, hb3⟩
        obtain ⟨hc1, hc2, hc3⟩ := hob
        have hgot := fun k (hk : k < l.length) => data_got l 1 k hk [] HR.out
        simp only [List.nil_append, List.length_nil] at hgot
        have hcl := dataC_len (numbered 1 l)
        rw [numbered_len] at hcl
        have HG := Lib.hid fun W (hb : Below w3.heap.size w3 W) k (hk : k < l.length) => rget_bytes _ _ W (hc1.below hb (Nat.le_refl _)) (4 * (k : Int)) 4 (by omega) (by omega) (by omega) (by omega)
        have HGOT := Lib.hid hgot
        obtain ⟨ad1, cp1, e1, _⟩ := id hc1
        injection e1 with e1a e1 e1c
        obtain ⟨ad3, cp3, e3, _⟩ := id hc3
        injection e3 with e3a e3 e3c
        rw [hcl] at e1
        simp only [List.length_nil] at e3
        subst e1 e3 e1a e1c e3a e3c
        have HB3 := Lib.hid (hBW.trans (hb3.mono hBW.size))
        clear hc1 hc2 hc3 hb3 hBW hbW hbr hgot hcv
        go_wp2_with fail
        obtain ⟨W4, hW4⟩ : ∃ X, X = (w3.alloc (.cells #[.slice ca (4 * l.length) cc, .slice sa sl sc, .slice qa 0 qc] 28)).alloc (.cells #[.int .i64 0, .int .i64 0] 31) := ⟨_, rfl⟩
        have c0 : W4.cell? ⟨w3.heap.size, 0, none⟩ = some (.slice ca (4 * l.length) cc) := by
          have : W4.heap[w3.heap.size]? = some (.cells #[.slice ca (4 * l.length) cc, .slice sa sl sc, .slice qa 0 qc] 28 (0, 0)) := by rw [hW4, old2 _ _ (by go_size)]; exact new_at _ _ rfl
          exact blk_cell this rfl
        have z0 : w3.heap.size < W4.heap.size := by rw [hW4]; go_size
        have hb4 : Below w3.heap.size w3 W4 := by rw [hW4]; go_grown
        rw [← hW4]
        have HB4 := Lib.hid (HB3.out.trans (hb4.mono HB3.out.size))
        have HG4 := Lib.hid (HG.out W4 hb4)
        clear hW4 hb4 HG
        go_loop [60] (fun iv => ∃ k : Nat, k ≤ l.length ∧ iv = .int .i64 k) (fun iv => l.length - (intOf iv).toNat)
        case atStart => exact ⟨0, Nat.zero_le _, rfl⟩
        case round =>
          obtain ⟨k, hk, rfl⟩ := hrel
          by_cases hlt : k < l.length
          · have hk' : (k : Int) < l.length := by omega
            obtain ⟨_, _, hcl⟩ := id HL.out
            obtain ⟨b, o, rfl, hbl, hcell⟩ := hcl (by omega)
            have r0 := hcell k hlt
            have HGK := Lib.hid (HG4.out k hlt)
            have hgot := HGOT.out k hlt
            obtain ⟨n, hn⟩ : ∃ n, l[k] = n := ⟨_, rfl⟩
            rw [hn] at r0 hgot
            simp only [Int.natCast_zero, Int.zero_add] at hgot
            have HGK2 : Hid (Calls Tryz.prog 9 #[.slice ca (4 * l.length) cc, .int .i64 (4 * (k : Int)), .int .i64 4] W4 fun e w' => e = .returned (.int .i64 n) ∧ w' = W4) := by
              have := HGK.out
              rw [show (4 : Int).toNat = 4 from rfl, hgot] at this
              exact this
            replace r0 := (HB4.out.cell (by show b < w.heap.size; exact hbl)).trans r0
            have hbr : b < W4.heap.size := Nat.lt_of_lt_of_le hbl HB4.out.size
            clear hcell hcl HGK hgot
            go_wp2_with (go_at_call 9; refine HGK2.out.mono ?_; rintro e W5 ⟨rfl, rfl⟩)
            exact ⟨⟨k + 1, by omega, by go_num⟩, by simp [intOf]; omega⟩
          · obtain rfl : k = l.length := by omega
            have hk' : ¬ ((l.length : Nat) : Int) < l.length := by omega
            go_wp2_with fail
            go_ret
            exact ⟨rfl, HB4.out⟩

end Go.Proofs.YtagkmgdjkailkaaGreatDoor

namespace Go.Proofs.YtagkmgdjkailkaaGreatDoor.Isa
open Go.RowKit Go.ChangeShapes Go.WideShapes Go.ChangeAt

/-- The list of what is laid, as the rows have it. -/
def laidL : List (String × DataW Unit) := [("platelayer/isa.operations", Rows.laid_platelayer_isa_operations), ("platelayer/isa.layouts", Rows.laid_platelayer_isa_layouts)]

theorem gOps : Tryz.prog.globalNamed "platelayer/isa.operations" = some 7 := by kernel_rfl
theorem gLay : Tryz.prog.globalNamed "platelayer/isa.layouts" = some 10 := by kernel_rfl
theorem tOps : (Tryz.prog.globals[(7 : Nat)]?).map (·.type) = some 283 := by kernel_rfl
theorem tLay : (Tryz.prog.globals[(10 : Nat)]?).map (·.type) = some 311 := by kernel_rfl

def opD (k : Nat) : DataW Unit := .agg [.lit (.string (opName k).data.toList), .lit (.int .i64 (opShape k)), .lit (.int .i64 (opBits k))]
def layD (k : Nat) : DataW Unit := .agg [.lit (.int .i64 (layN k)), .lit (.int .i64 (layM k)), .lit (.int .i64 (layLow k)), .lit (.int .i64 (layHigh k))]
theorem opsD_eq : (Rows.laid_platelayer_isa_operations : DataW Unit) = .agg ((List.range 28).map opD) := by kernel_rfl
theorem laysD_eq : (Rows.laid_platelayer_isa_layouts : DataW Unit) = .agg ((List.range 12).map layD) := by kernel_rfl
theorem cells51 : Tryz.prog.cellsOf 282 = 3 := by kernel_rfl
theorem cells52 : Tryz.prog.cellsOf 283 = 84 := by kernel_rfl
theorem cells54 : Tryz.prog.cellsOf 285 = 4 := by kernel_rfl
theorem cells62 : Tryz.prog.cellsOf 311 = 48 := by kernel_rfl
theorem cells3 : Tryz.prog.cellsOf 3 = 1 := by kernel_rfl
theorem cells9 : Tryz.prog.cellsOf 9 = 1 := by kernel_rfl

theorem take1 {l : List Value} {k : Nat} {v : Value} (h : (l.drop k).take 1 = [v]) : l[k]? = some v := by
  have := congrArg (fun x => x[0]?) h
  simpa using this

theorem take1_in {l : List Value} {a b n : Nat} {v : Value} (hb : b < n) (h : ((((l.drop a).take n).drop b).take 1) = [v]) : l[a + b]? = some v := by
  have := take1 h
  rw [List.getElem?_take_of_lt hb, List.getElem?_drop] at this
  exact this

theorem row_ops {W : World} {enc : TypeId × Value → Unit} {base : Nat} {spare : Nat → Bool} {held : Bool} {fuel : Nat} {cs : List Value} {ps : List MemPlace}
    (h : DataW.trod enc Tryz.prog W base spare held fuel 283 cs = some (Rows.laid_platelayer_isa_operations, ps)) :
    cs.length = 84 ∧ ∀ i, i < 28 → cs[i * 3]? = some (.string (opName i)) ∧ cs[i * 3 + 1]? = some (.int .i64 (opShape i)) ∧ cs[i * 3 + 2]? = some (.int .i64 (opBits i)) := by
  obtain ⟨xs, m, rfl, hx, hlen, hn, hel⟩ := DataW.trod_array Tryz.underlying283 h
  refine ⟨by rw [hlen, cells52], fun i hi => ?_⟩
  have hxi := hel i hi
  rw [cells51] at hxi
  have hlt : i < xs.length := by omega
  rw [List.getElem?_eq_getElem hlt] at hxi
  obtain ⟨y0, y1, y2, n, e, _, g0, g1, g2⟩ := Go.Deep.trod_struct3 Tryz.underlying282 hxi
  simp only [cells9, cells3] at g0 g1 g2
  obtain ⟨s, k0, rfl, _⟩ := DataW.trod_string Tryz.underlying9 g0
  obtain ⟨a, k1, rfl, _⟩ := DataW.trod_int Tryz.underlying3 g1
  obtain ⟨b, k2, rfl, _⟩ := DataW.trod_int Tryz.underlying3 g2
  have hd : (xs[i]).1 = opD i := by
    rw [opsD_eq] at hx
    have := congrArg Prod.fst hx
    simp only [DataW.agg.injEq] at this
    have := congrArg (fun l => l[i]?) this
    simp [hi, hlt] at this
    exact this.symm
  rw [e] at hd
  simp only [opD, DataW.agg.injEq, List.cons.injEq, DataW.lit.injEq, Lit.string.injEq, Lit.int.injEq, true_and, and_true] at hd
  obtain ⟨d0, d1, d2⟩ := hd
  have hs : s = opName i := by
    obtain ⟨⟨l⟩⟩ := s
    generalize opName i = t at d0
    obtain ⟨⟨l'⟩⟩ := t
    simpa using d0
  rw [hs] at k0
  rw [d1] at k1
  rw [d2] at k2
  exact ⟨take1_in (a := i * 3) (b := 0) (n := 3) (by omega) k0, take1_in (by omega) k1, take1_in (by omega) k2⟩

theorem row_lays {W : World} {enc : TypeId × Value → Unit} {base : Nat} {spare : Nat → Bool} {held : Bool} {fuel : Nat} {cs : List Value} {ps : List MemPlace}
    (h : DataW.trod enc Tryz.prog W base spare held fuel 311 cs = some (Rows.laid_platelayer_isa_layouts, ps)) :
    ∀ i, i < 12 → cs[i * 4]? = some (.int .i64 (layN i)) ∧ cs[i * 4 + 1]? = some (.int .i64 (layM i)) ∧ cs[i * 4 + 2]? = some (.int .i64 (layLow i)) ∧ cs[i * 4 + 3]? = some (.int .i64 (layHigh i)) := by
  obtain ⟨xs, m, rfl, hx, hlen, hn, hel⟩ := DataW.trod_array Tryz.underlying311 h
  intro i hi
  have hxi := hel i hi
  rw [cells54] at hxi
  have hlt : i < xs.length := by omega
  rw [List.getElem?_eq_getElem hlt] at hxi
  obtain ⟨y0, y1, y2, y3, n, e, _, g0, g1, g2, g3⟩ := Go.Joins.trod_struct4 Tryz.underlying285 hxi
  simp only [cells3] at g0 g1 g2 g3
  obtain ⟨a, k0, rfl, _⟩ := DataW.trod_int Tryz.underlying3 g0
  obtain ⟨b, k1, rfl, _⟩ := DataW.trod_int Tryz.underlying3 g1
  obtain ⟨c, k2, rfl, _⟩ := DataW.trod_int Tryz.underlying3 g2
  obtain ⟨d, k3, rfl, _⟩ := DataW.trod_int Tryz.underlying3 g3
  have hd : (xs[i]).1 = layD i := by
    rw [laysD_eq] at hx
    have := congrArg Prod.fst hx
    simp only [DataW.agg.injEq] at this
    have := congrArg (fun l => l[i]?) this
    simp [hi, hlt] at this
    exact this.symm
  rw [e] at hd
  simp only [layD, DataW.agg.injEq, List.cons.injEq, DataW.lit.injEq, Lit.int.injEq, true_and, and_true] at hd
  obtain ⟨d0, d1, d2, d3⟩ := hd
  rw [d0] at k0
  rw [d1] at k1
  rw [d2] at k2
  rw [d3] at k3
  exact ⟨take1_in (a := i * 4) (b := 0) (n := 4) (by omega) k0, take1_in (by omega) k1, take1_in (by omega) k2, take1_in (by omega) k3⟩

set_option maxRecDepth 100000 in
theorem opCells_at : (List.range 28).map (fun i => (opCells[i * 3]?, opCells[i * 3 + 1]?, opCells[i * 3 + 2]?)) = (List.range 28).map (fun i : Nat => (some (Value.string (opName i)), some (Value.int .i64 (opShape i)), some (Value.int .i64 (opBits i)))) := by kernel_rfl

theorem opCells_row (i : Nat) (hi : i < 28) : opCells[i * 3]? = some (.string (opName i)) ∧ opCells[i * 3 + 1]? = some (.int .i64 (opShape i)) ∧ opCells[i * 3 + 2]? = some (.int .i64 (opBits i)) := by
  have h := congrArg (fun l => l[i]?) opCells_at
  simp only [List.getElem?_map, List.getElem?_range hi, Option.map_some, Option.some.injEq, Prod.mk.injEq] at h
  exact h
theorem opCells_size : opCells.size = 84 := by kernel_rfl

theorem var_block {P : Program} {w : World} {n : String} {g : Nat} {cs : Array Value} (hg : P.globalNamed n = some g) (hv : w.var? P n = some cs) : ∃ t fr, w.heap[g]? = some (.cells cs t fr) := by
  simp only [World.var?, hg, Option.bind_some] at hv
  split at hv
  · rename_i c e f hh
    exact ⟨e, f, by rw [hh]; simpa using hv⟩
  · simp at hv

/-- WHAT THE CONDITION ON THE LISTED VARIABLES GIVES THE WALKS. -/
theorem laid_rest {W : World} {rest : List (String × DataW Unit)} (h : laidMet Tryz.prog (("platelayer/isa.operations", Rows.laid_platelayer_isa_operations) :: ("platelayer/isa.layouts", Rows.laid_platelayer_isa_layouts) :: rest) W) : Laid W := by
  obtain ⟨ps, ⟨g0, t0, cs0, f0, p0, q0, hg0, ht0, hv0, hd0, ⟨g1, t1, cs1, f1, p1, q1, hg1, ht1, hv1, hd1, _⟩, _⟩, _⟩ := h
  obtain rfl := Option.some.inj (gOps.symm.trans hg0)
  obtain rfl := Option.some.inj (gLay.symm.trans hg1)
  obtain rfl := Option.some.inj (tOps.symm.trans ht0)
  obtain rfl := Option.some.inj (tLay.symm.trans ht1)
  obtain ⟨hlen, r0⟩ := row_ops hd0
  have r1 := row_lays hd1
  have c0 := World.var?_cell hg0 hv0
  have c1 := World.var?_cell hg1 hv1
  obtain ⟨bt, bfr, hblk⟩ := var_block hg0 hv0
  obtain ⟨bt1, bfr1, hblk1⟩ := var_block hg1 hv1
  have hall : cs0 = opCells := by
    apply Array.ext_getElem?
    intro j
    have hsz : cs0.size = 84 := by simpa using hlen
    by_cases hj : j < 84
    · have hi : j / 3 < 28 := by omega
      obtain ⟨x0, x1, x2⟩ := r0 (j / 3) hi
      obtain ⟨y0, y1, y2⟩ := opCells_row (j / 3) hi
      have hc : j = j / 3 * 3 ∨ j = j / 3 * 3 + 1 ∨ j = j / 3 * 3 + 2 := by omega
      rcases hc with hc | hc | hc
      · rw [hc, y0, ← Array.getElem?_toList]; exact x0
      · rw [hc, y1, ← Array.getElem?_toList]; exact x1
      · rw [hc, y2, ← Array.getElem?_toList]; exact x2
    · rw [Array.getElem?_eq_none (by omega), Array.getElem?_eq_none (by rw [opCells_size]; omega)]
  subst hall
  have conv : ∀ s : Int, 0 ≤ s → ((s.toNat : Nat) : Int) = s := fun s h => by omega
  refine ⟨?_, ⟨bt, bfr, hblk⟩, ?_, ?_, ?_, ?_, ?_, ?_, ?_⟩
  · have u0 := (Array.getElem?_eq_some_iff.1 hblk).1
    have u1 := (Array.getElem?_eq_some_iff.1 hblk1).1
    exact Nat.max_lt.2 ⟨u0, u1⟩
  · intro s h0 h1; rw [c1, ← Array.getElem?_toList, (r1 s.toNat (by omega)).1, conv s h0]
  · intro s h0 h1; rw [c1, ← Array.getElem?_toList, (r1 s.toNat (by omega)).2.1, conv s h0]
  · intro s h0 h1; rw [c1, ← Array.getElem?_toList, (r1 s.toNat (by omega)).2.2.1, conv s h0]
  · intro s h0 h1; rw [c1, ← Array.getElem?_toList, (r1 s.toNat (by omega)).2.2.2, conv s h0]
  · intro s h0 h1; rw [c0, (opCells_row s.toNat (by omega)).1, conv s h0]
  · intro s h0 h1; rw [c0, (opCells_row s.toNat (by omega)).2.1, conv s h0]
  · intro s h0 h1; rw [c0, (opCells_row s.toNat (by omega)).2.2, conv s h0]

theorem laid_of {W : World} (h : laidMetH Tryz.prog laidL W) : Laid W := by
  rw [MakeChecks.laidMetH_plain _ _ _ (by kernel_rfl)] at h
  exact laid_rest h

end Go.Proofs.YtagkmgdjkailkaaGreatDoor.Isa

namespace Go.Proofs.YtagkmgdjkailkaaGreatDoor.Xp
open Go.RowKit Go.ChangeShapes Go.WideShapes Go.ChangeAt

theorem gKin : Tryz.prog.globalNamed "platelayer/expr.kinds" = some 11 := by kernel_rfl
theorem tKin : (Tryz.prog.globals[(11 : Nat)]?).map (·.type) = some 328 := by kernel_rfl

def kinD (k : Nat) : DataW Unit := .agg [.lit (.int .i64 (kKids k)), .lit (.string (kSign k)), .lit (.int .i64 (kStr k))]
theorem kinD_eq : (Rows.laid_platelayer_expr_kinds : DataW Unit) = .agg ((List.range 12).map kinD) := by kernel_rfl
theorem bcells_row : Tryz.prog.cellsOf 327 = 3 := by kernel_rfl
theorem bcells_tab : Tryz.prog.cellsOf 328 = 36 := by kernel_rfl
theorem bcells3 : Tryz.prog.cellsOf 3 = 1 := by kernel_rfl
theorem bcells9 : Tryz.prog.cellsOf 9 = 1 := by kernel_rfl

theorem btake1 {l : List Value} {k : Nat} {v : Value} (h : (l.drop k).take 1 = [v]) : l[k]? = some v := by
  have := congrArg (fun x => x[0]?) h
  simpa using this
theorem btake1_in {l : List Value} {a b n : Nat} {v : Value} (hb : b < n) (h : ((((l.drop a).take n).drop b).take 1) = [v]) : l[a + b]? = some v := by
  have := btake1 h
  rw [List.getElem?_take_of_lt hb, List.getElem?_drop] at this
  exact this

theorem row_kin {W : World} {enc : TypeId × Value → Unit} {base : Nat} {spare : Nat → Bool} {held : Bool} {fuel : Nat} {cs : List Value} {ps : List MemPlace}
    (h : DataW.trod enc Tryz.prog W base spare held fuel 328 cs = some (Rows.laid_platelayer_expr_kinds, ps)) :
    cs.length = 36 ∧ ∀ i : Nat, i < 12 → cs[i * 3]? = some (.int .i64 (kKids i)) ∧ cs[i * 3 + 1]? = some (.string ⟨(kSign i).toArray⟩) ∧ cs[i * 3 + 2]? = some (.int .i64 (kStr i)) := by
  obtain ⟨xs, m, rfl, hx, hlen, hn, hel⟩ := DataW.trod_array Tryz.underlying328 h
  refine ⟨by rw [hlen, bcells_tab], fun i hi => ?_⟩
  have hxi := hel i hi
  rw [bcells_row] at hxi
  have hlt : i < xs.length := by omega
  rw [List.getElem?_eq_getElem hlt] at hxi
  obtain ⟨y0, y1, y2, n, e, _, g0, g1, g2⟩ := Go.Deep.trod_struct3 Tryz.underlying327 hxi
  simp only [bcells9, bcells3] at g0 g1 g2
  obtain ⟨a, k0, rfl, _⟩ := DataW.trod_int Tryz.underlying3 g0
  obtain ⟨s, k1, rfl, _⟩ := DataW.trod_string Tryz.underlying9 g1
  obtain ⟨b, k2, rfl, _⟩ := DataW.trod_int Tryz.underlying3 g2
  have hd : (xs[i]).1 = kinD i := by
    rw [kinD_eq] at hx
    have := congrArg Prod.fst hx
    simp only [DataW.agg.injEq] at this
    have := congrArg (fun l => l[i]?) this
    simp [hi, hlt] at this
    exact this.symm
  rw [e] at hd
  simp only [kinD, DataW.agg.injEq, List.cons.injEq, DataW.lit.injEq, Lit.string.injEq, Lit.int.injEq, true_and, and_true] at hd
  obtain ⟨d0, d1, d2⟩ := hd
  have hs : s = ⟨(kSign i).toArray⟩ := by
    obtain ⟨⟨l⟩⟩ := s
    simpa using d1
  rw [hs] at k1
  rw [d0] at k0
  rw [d2] at k2
  exact ⟨btake1_in (a := i * 3) (b := 0) (n := 3) (by omega) k0, btake1_in (by omega) k1, btake1_in (by omega) k2⟩

set_option maxRecDepth 100000 in
theorem kCells_at : (List.range 12).map (fun i => (kCells[i * 3]?, kCells[i * 3 + 1]?, kCells[i * 3 + 2]?)) = (List.range 12).map (fun i : Nat => (some (Value.int .i64 (kKids i)), some (Value.string ⟨(kSign i).toArray⟩), some (Value.int .i64 (kStr i)))) := by kernel_rfl
theorem kCells_row (i : Nat) (hi : i < 12) : kCells[i * 3]? = some (.int .i64 (kKids i)) ∧ kCells[i * 3 + 1]? = some (.string ⟨(kSign i).toArray⟩) ∧ kCells[i * 3 + 2]? = some (.int .i64 (kStr i)) := by
  have h := congrArg (fun l => l[i]?) kCells_at
  simp only [List.getElem?_map, List.getElem?_range hi, Option.map_some, Option.some.injEq, Prod.mk.injEq] at h
  exact h
theorem kCells_size : kCells.size = 36 := by kernel_rfl

theorem bvar_block {P : Program} {w : World} {n : String} {g : Nat} {cs : Array Value} (hg : P.globalNamed n = some g) (hv : w.var? P n = some cs) : ∃ t fr, w.heap[g]? = some (.cells cs t fr) := by
  simp only [World.var?, hg, Option.bind_some] at hv
  split at hv
  · rename_i c e f hh
    exact ⟨e, f, by rw [hh]; simpa using hv⟩
  · simp at hv

/-- WHAT THE CONDITION ON THE LISTED VARIABLES GIVES THE WALKS. -/
theorem klaid_of {W : World} {rest : List (String × DataW Unit)} (h : laidMet Tryz.prog (("platelayer/expr.kinds", Rows.laid_platelayer_expr_kinds) :: rest) W) : KLaid W := by
  obtain ⟨ps, ⟨g0, t0, cs0, f0, p0, q0, hg0, ht0, hv0, hd0, _⟩, _⟩ := h
  obtain rfl := Option.some.inj (gKin.symm.trans hg0)
  obtain rfl := Option.some.inj (tKin.symm.trans ht0)
  obtain ⟨hlen, r0⟩ := row_kin hd0
  have c0 := World.var?_cell hg0 hv0
  obtain ⟨bt, bfr, hblk⟩ := bvar_block hg0 hv0
  have hall : cs0 = kCells := by
    apply Array.ext_getElem?
    intro j
    have hsz : cs0.size = 36 := by simpa using hlen
    by_cases hj : j < 36
    · have hi : j / 3 < 12 := by omega
      obtain ⟨x0, x1, x2⟩ := r0 (j / 3) hi
      obtain ⟨y0, y1, y2⟩ := kCells_row (j / 3) hi
      have hc : j = j / 3 * 3 ∨ j = j / 3 * 3 + 1 ∨ j = j / 3 * 3 + 2 := by omega
      rcases hc with hc | hc | hc
      · rw [hc, y0, ← Array.getElem?_toList]; exact x0
      · rw [hc, y1, ← Array.getElem?_toList]; exact x1
      · rw [hc, y2, ← Array.getElem?_toList]; exact x2
    · rw [Array.getElem?_eq_none (by omega), Array.getElem?_eq_none (by rw [kCells_size]; omega)]
  subst hall
  have conv : ∀ s : Int, 0 ≤ s → ((s.toNat : Nat) : Int) = s := fun s h => by omega
  refine ⟨(Array.getElem?_eq_some_iff.1 hblk).1, ⟨bt, bfr, hblk⟩, ?_, ?_, ?_⟩
  · intro s h0 h1; rw [c0, (kCells_row s.toNat (by omega)).1, conv s h0]
  · intro s h0 h1; rw [c0, (kCells_row s.toNat (by omega)).2.1, conv s h0]
  · intro s h0 h1; rw [c0, (kCells_row s.toNat (by omega)).2.2, conv s h0]

end Go.Proofs.YtagkmgdjkailkaaGreatDoor.Xp
