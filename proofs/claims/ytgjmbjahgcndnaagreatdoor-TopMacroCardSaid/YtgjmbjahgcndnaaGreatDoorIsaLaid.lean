import Derived.Test.YtgjmbjahgcndnaaGreatDoorPut2
import Derived.ProofKit
import Derived.LaidMore
import Derived.Deep.Strs
import Derived.Lib.SmallJoins
set_option maxRecDepth 100000
namespace Go.Proofs.YtgjmbjahgcndnaaGreatDoor.Isa
open Go.RowKit Go.ChangeShapes Go.WideShapes Go.ChangeAt
theorem gOps : Tryz.prog.globalNamed "platelayer/isa.operations" = some 1 := by kernel_rfl
theorem gLay : Tryz.prog.globalNamed "platelayer/isa.layouts" = some 4 := by kernel_rfl
theorem tOps : (Tryz.prog.globals[(1 : Nat)]?).map (·.type) = some 156 := by kernel_rfl
theorem tLay : (Tryz.prog.globals[(4 : Nat)]?).map (·.type) = some 206 := by kernel_rfl
def opD (k : Nat) : DataW Unit := .agg [.lit (.string (qBB k).data.toList), .lit (.int .i64 (qF k)), .lit (.int .i64 (qAm k))]
def layD (k : Nat) : DataW Unit := .agg [.lit (.int .i64 (layN k)), .lit (.int .i64 (layM k)), .lit (.int .i64 (qu k)), .lit (.int .i64 (qU k))]
theorem opsD_eq : (Rows.laid_platelayer_isa_operations : DataW Unit) = .agg ((List.range 28).map opD) := by kernel_rfl
theorem laysD_eq : (Rows.laid_platelayer_isa_layouts : DataW Unit) = .agg ((List.range 12).map layD) := by kernel_rfl
theorem cells51 : Tryz.prog.cellsOf 155 = 3 := by kernel_rfl
theorem cells52 : Tryz.prog.cellsOf 156 = 84 := by kernel_rfl
theorem cells54 : Tryz.prog.cellsOf 158 = 4 := by kernel_rfl
theorem cells3 : Tryz.prog.cellsOf 3 = 1 := by kernel_rfl
theorem cells9 : Tryz.prog.cellsOf 9 = 1 := by kernel_rfl
theorem take1 {l : List Value} {k : Nat} {v : Value} (h : (l.drop k).take 1 = [v]) : l[k]? = some v := by
 have := congrArg (fun x => x[0]?) h
 simpa using this
theorem qB6 {l : List Value} {a b n : Nat} {v : Value} (hb : b < n) (h : ((((l.drop a).take n).drop b).take 1) = [v]) : l[a + b]? = some v := by
 have := take1 h
 rw [List.getElem?_take_of_lt hb, List.getElem?_drop] at this
 exact this
theorem row_ops {W : World} {enc : TypeId × Value -> Unit} {base : Nat} {spare : Nat -> Bool} {held : Bool} {fuel : Nat} {cs : List Value} {ps : List MemPlace}
  (h : DataW.trod enc Tryz.prog W base spare held fuel 156 cs = some (Rows.laid_platelayer_isa_operations, ps)) :
  cs.length = 84 /\ ∀ i, i < 28 -> cs[i * 3]? = some (.string (qBB i)) /\ cs[i * 3 + 1]? = some (.int .i64 (qF i)) /\ cs[i * 3 + 2]? = some (.int .i64 (qAm i)) := by
 obtain ⟨xs, m, rfl, hx, hlen, hn, hel⟩ := DataW.trod_array Tryz.underlying156 h
 refine ⟨by rw [hlen, cells52], fun i hi => ?_⟩
 have hxi := hel i hi
 rw [cells51] at hxi
 have hlt : i < xs.length := by omega
 rw [List.getElem?_eq_getElem hlt] at hxi
 obtain ⟨y0, y1, y2, n, e, _, g0, g1, g2⟩ := Go.Deep.trod_struct3 Tryz.underlying155 hxi
 simp only [cells9, cells3] at g0 g1 g2
 obtain ⟨s, k0, rfl, _⟩ := DataW.trod_string Tryz.underlying9 g0
 obtain ⟨a, k1, rfl, _⟩ := DataW.trod_int Tryz.underlying3 g1
 obtain ⟨b, k2, rfl, _⟩ := DataW.trod_int Tryz.underlying3 g2
 have hd : (xs[i]).1 = opD i := by
  rw [opsD_eq] at hx
  have := congrArg Prod.fst hx
  simp only [DataW.agg.injEq] at this
  have := congrArg (fun l => l[i]?) this
  simp [hi, hlt] at this
  exact this.symm
 rw [e] at hd
 simp only [opD, DataW.agg.injEq, List.cons.injEq, DataW.lit.injEq, Lit.string.injEq, Lit.int.injEq, true_and, and_true] at hd
 obtain ⟨d0, d1, d2⟩ := hd
 have hs : s = qBB i := by
  obtain ⟨⟨l⟩⟩ := s
  generalize qBB i = t at d0
  obtain ⟨⟨l'⟩⟩ := t
  simpa using d0
 rw [hs] at k0
 rw [d1] at k1
 rw [d2] at k2
 exact ⟨qB6 (a := i * 3) (b := 0) (n := 3) (by omega) k0, qB6 (by omega) k1, qB6 (by omega) k2⟩
theorem row_lays {W : World} {enc : TypeId × Value -> Unit} {base : Nat} {spare : Nat -> Bool} {held : Bool} {fuel : Nat} {cs : List Value} {ps : List MemPlace}
  (h : DataW.trod enc Tryz.prog W base spare held fuel 206 cs = some (Rows.laid_platelayer_isa_layouts, ps)) :
  ∀ i, i < 12 -> cs[i * 4]? = some (.int .i64 (layN i)) /\ cs[i * 4 + 1]? = some (.int .i64 (layM i)) /\ cs[i * 4 + 2]? = some (.int .i64 (qu i)) /\ cs[i * 4 + 3]? = some (.int .i64 (qU i)) := by
 obtain ⟨xs, m, rfl, hx, hlen, hn, hel⟩ := DataW.trod_array Tryz.underlying206 h
 intro i hi
 have hxi := hel i hi
 rw [cells54] at hxi
 have hlt : i < xs.length := by omega
 rw [List.getElem?_eq_getElem hlt] at hxi
 obtain ⟨y0, y1, y2, y3, n, e, _, g0, g1, g2, g3⟩ := Go.Joins.trod_struct4 Tryz.underlying158 hxi
 simp only [cells3] at g0 g1 g2 g3
 obtain ⟨a, k0, rfl, _⟩ := DataW.trod_int Tryz.underlying3 g0
 obtain ⟨b, k1, rfl, _⟩ := DataW.trod_int Tryz.underlying3 g1
 obtain ⟨c, k2, rfl, _⟩ := DataW.trod_int Tryz.underlying3 g2
 obtain ⟨d, k3, rfl, _⟩ := DataW.trod_int Tryz.underlying3 g3
 have hd : (xs[i]).1 = layD i := by
  rw [laysD_eq] at hx
  have := congrArg Prod.fst hx
  simp only [DataW.agg.injEq] at this
  have := congrArg (fun l => l[i]?) this
  simp [hi, hlt] at this
  exact this.symm
 rw [e] at hd
 simp only [layD, DataW.agg.injEq, List.cons.injEq, DataW.lit.injEq, Lit.int.injEq, true_and, and_true] at hd
 obtain ⟨d0, d1, d2, d3⟩ := hd
 rw [d0] at k0
 rw [d1] at k1
 rw [d2] at k2
 rw [d3] at k3
 exact ⟨qB6 (a := i * 4) (b := 0) (n := 4) (by omega) k0, qB6 (by omega) k1, qB6 (by omega) k2, qB6 (by omega) k3⟩
theorem qJD : (List.range 28).map (fun i => (qA6[i * 3]?, qA6[i * 3 + 1]?, qA6[i * 3 + 2]?)) = (List.range 28).map (fun i : Nat => (some (Value.string (qBB i)), some (Value.int .i64 (qF i)), some (Value.int .i64 (qAm i)))) := by kernel_rfl
theorem qB5 (i : Nat) (hi : i < 28) : qA6[i * 3]? = some (.string (qBB i)) /\ qA6[i * 3 + 1]? = some (.int .i64 (qF i)) /\ qA6[i * 3 + 2]? = some (.int .i64 (qAm i)) := by
 have h := congrArg (fun l => l[i]?) qJD
 simp only [List.getElem?_map, List.getElem?_range hi, Option.map_some, Option.some.injEq, Prod.mk.injEq] at h
 exact h
theorem qFn : qA6.size = 84 := by kernel_rfl
theorem qGD {P : Program} {w : World} {n : String} {g : Nat} {cs : Array Value} (hg : P.globalNamed n = some g) (hv : w.var? P n = some cs) : ∃ t fr, w.heap[g]? = some (.cells cs t fr) := by
 simp only [World.var?, hg, Option.bind_some] at hv
 split at hv
 ·rename_i c e f hh
  exact ⟨e, f, by rw [hh]; simpa using hv⟩
 ·simp at hv
theorem qFf {W : World} {rest : List (String × DataW Unit)} (h : laidMet Tryz.prog (("platelayer/isa.operations", Rows.laid_platelayer_isa_operations) :: ("platelayer/isa.layouts", Rows.laid_platelayer_isa_layouts) :: rest) W) : Laid W := by
 obtain ⟨ps, ⟨g0, t0, cs0, f0, p0, q0, hg0, ht0, hv0, hd0, ⟨g1, t1, cs1, f1, p1, q1, hg1, ht1, hv1, hd1, _⟩, _⟩, _⟩ := h
 obtain rfl := Option.some.inj (gOps.symm.trans hg0)
 obtain rfl := Option.some.inj (gLay.symm.trans hg1)
 obtain rfl := Option.some.inj (tOps.symm.trans ht0)
 obtain rfl := Option.some.inj (tLay.symm.trans ht1)
 obtain ⟨hlen, r0⟩ := row_ops hd0
 have r1 := row_lays hd1
 have c0 := World.var?_cell hg0 hv0
 have c1 := World.var?_cell hg1 hv1
 obtain ⟨bt, bfr, hblk⟩ := qGD hg0 hv0
 obtain ⟨bt1, bfr1, hblk1⟩ := qGD hg1 hv1
 have hall : cs0 = qA6 := by
  apply Array.ext_getElem?
  intro j
  have hsz : cs0.size = 84 := by simpa using hlen
  by_cases hj : j < 84
  ·have hi : j / 3 < 28 := by omega
   obtain ⟨x0, x1, x2⟩ := r0 (j / 3) hi
   obtain ⟨y0, y1, y2⟩ := qB5 (j / 3) hi
   have hc : j = j / 3 * 3 \/ j = j / 3 * 3 + 1 \/ j = j / 3 * 3 + 2 := by omega
   rcases hc with hc | hc | hc
   ·rw [hc, y0, <- Array.getElem?_toList]; exact x0
   ·rw [hc, y1, <- Array.getElem?_toList]; exact x1
   ·rw [hc, y2, <- Array.getElem?_toList]; exact x2
  ·rw [Array.getElem?_eq_none (by omega), Array.getElem?_eq_none (by rw [qFn]; omega)]
 subst hall
 have conv : ∀ s : Int, 0 <= s -> ((s.toNat : Nat) : Int) = s := fun s h => by omega
 refine ⟨?_, ⟨bt, bfr, hblk⟩, ?_, ?_, ?_, ?_, ?_, ?_, ?_⟩
 ·have u0 := (Array.getElem?_eq_some_iff.1 hblk).1
  have u1 := (Array.getElem?_eq_some_iff.1 hblk1).1
  exact Nat.max_lt.2 ⟨u0, u1⟩
 ·intro s h0 h1; rw [c1, <- Array.getElem?_toList, (r1 s.toNat (by omega)).1, conv s h0]
 ·intro s h0 h1; rw [c1, <- Array.getElem?_toList, (r1 s.toNat (by omega)).2.1, conv s h0]
 ·intro s h0 h1; rw [c1, <- Array.getElem?_toList, (r1 s.toNat (by omega)).2.2.1, conv s h0]
 ·intro s h0 h1; rw [c1, <- Array.getElem?_toList, (r1 s.toNat (by omega)).2.2.2, conv s h0]
 ·intro s h0 h1; rw [c0, (qB5 s.toNat (by omega)).1, conv s h0]
 ·intro s h0 h1; rw [c0, (qB5 s.toNat (by omega)).2.1, conv s h0]
 ·intro s h0 h1; rw [c0, (qB5 s.toNat (by omega)).2.2, conv s h0]
end Go.Proofs.YtgjmbjahgcndnaaGreatDoor.Isa
