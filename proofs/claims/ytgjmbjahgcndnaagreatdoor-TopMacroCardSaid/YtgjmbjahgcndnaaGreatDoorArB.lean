import Derived.Test.YtgjmbjahgcndnaaGreatDoorPut11
import Derived.ProofKit
import Derived.LaidMore
import Derived.Deep.Strs
set_option maxRecDepth 100000
namespace Go.Proofs.YtgjmbjahgcndnaaGreatDoor.Xp
open Go.RowKit Go.ChangeShapes Go.WideShapes Go.ChangeAt
theorem gKin : Tryz.prog.globalNamed "platelayer/expr.kinds" = some 11 := by kernel_rfl
theorem tKin : (Tryz.prog.globals[(11 : Nat)]?).map (·.type) = some 377 := by kernel_rfl
def kinD (k : Nat) : DataW Unit := .agg [.lit (.int .i64 (qCF k)), .lit (.string (qB4 k)), .lit (.int .i64 (kStr k))]
theorem kinD_eq : (Rows.laid_platelayer_expr_kinds : DataW Unit) = .agg ((List.range 12).map kinD) := by kernel_rfl
theorem qJX : Tryz.prog.cellsOf 376 = 3 := by kernel_rfl
theorem qJa : Tryz.prog.cellsOf 377 = 36 := by kernel_rfl
theorem bcells3 : Tryz.prog.cellsOf 3 = 1 := by kernel_rfl
theorem bcells9 : Tryz.prog.cellsOf 9 = 1 := by kernel_rfl
theorem btake1 {l : List Value} {k : Nat} {v : Value} (h : (l.drop k).take 1 = [v]) : l[k]? = some v := by
 have := congrArg (fun x => x[0]?) h
 simpa using this
theorem qCK {l : List Value} {a b n : Nat} {v : Value} (hb : b < n) (h : ((((l.drop a).take n).drop b).take 1) = [v]) : l[a + b]? = some v := by
 have := btake1 h
 rw [List.getElem?_take_of_lt hb, List.getElem?_drop] at this
 exact this
theorem row_kin {W : World} {enc : TypeId × Value -> Unit} {base : Nat} {spare : Nat -> Bool} {held : Bool} {fuel : Nat} {cs : List Value} {ps : List MemPlace}
  (h : DataW.trod enc Tryz.prog W base spare held fuel 377 cs = some (Rows.laid_platelayer_expr_kinds, ps)) :
  cs.length = 36 /\ ∀ i : Nat, i < 12 -> cs[i * 3]? = some (.int .i64 (qCF i)) /\ cs[i * 3 + 1]? = some (.string ⟨(qB4 i).toArray⟩) /\ cs[i * 3 + 2]? = some (.int .i64 (kStr i)) := by
 obtain ⟨xs, m, rfl, hx, hlen, hn, hel⟩ := DataW.trod_array Tryz.underlying377 h
 refine ⟨by rw [hlen, qJa], fun i hi => ?_⟩
 have hxi := hel i hi
 rw [qJX] at hxi
 have hlt : i < xs.length := by omega
 rw [List.getElem?_eq_getElem hlt] at hxi
 obtain ⟨y0, y1, y2, n, e, _, g0, g1, g2⟩ := Go.Deep.trod_struct3 Tryz.underlying376 hxi
 simp only [bcells9, bcells3] at g0 g1 g2
 obtain ⟨a, k0, rfl, _⟩ := DataW.trod_int Tryz.underlying3 g0
 obtain ⟨s, k1, rfl, _⟩ := DataW.trod_string Tryz.underlying9 g1
 obtain ⟨b, k2, rfl, _⟩ := DataW.trod_int Tryz.underlying3 g2
 have hd : (xs[i]).1 = kinD i := by
  rw [kinD_eq] at hx
  have := congrArg Prod.fst hx
  simp only [DataW.agg.injEq] at this
  have := congrArg (fun l => l[i]?) this
  simp [hi, hlt] at this
  exact this.symm
 rw [e] at hd
 simp only [kinD, DataW.agg.injEq, List.cons.injEq, DataW.lit.injEq, Lit.string.injEq, Lit.int.injEq, true_and, and_true] at hd
 obtain ⟨d0, d1, d2⟩ := hd
 have hs : s = ⟨(qB4 i).toArray⟩ := by
  obtain ⟨⟨l⟩⟩ := s
  simpa using d1
 rw [hs] at k1
 rw [d0] at k0
 rw [d2] at k2
 exact ⟨qCK (a := i * 3) (b := 0) (n := 3) (by omega) k0, qCK (by omega) k1, qCK (by omega) k2⟩
theorem qLD : (List.range 12).map (fun i => (qBd[i * 3]?, qBd[i * 3 + 1]?, qBd[i * 3 + 2]?)) = (List.range 12).map (fun i : Nat => (some (Value.int .i64 (qCF i)), some (Value.string ⟨(qB4 i).toArray⟩), some (Value.int .i64 (kStr i)))) := by kernel_rfl
theorem qCb (i : Nat) (hi : i < 12) : qBd[i * 3]? = some (.int .i64 (qCF i)) /\ qBd[i * 3 + 1]? = some (.string ⟨(qB4 i).toArray⟩) /\ qBd[i * 3 + 2]? = some (.int .i64 (kStr i)) := by
 have h := congrArg (fun l => l[i]?) qLD
 simp only [List.getElem?_map, List.getElem?_range hi, Option.map_some, Option.some.injEq, Prod.mk.injEq] at h
 exact h
theorem qGx : qBd.size = 36 := by kernel_rfl
theorem qES {P : Program} {w : World} {n : String} {g : Nat} {cs : Array Value} (hg : P.globalNamed n = some g) (hv : w.var? P n = some cs) : ∃ t fr, w.heap[g]? = some (.cells cs t fr) := by
 simp only [World.var?, hg, Option.bind_some] at hv
 split at hv
 ·rename_i c e f hh
  exact ⟨e, f, by rw [hh]; simpa using hv⟩
 ·simp at hv
theorem qIE {W : World} {rest : List (String × DataW Unit)} (h : laidMet Tryz.prog (("platelayer/expr.kinds", Rows.laid_platelayer_expr_kinds) :: rest) W) : qAT W := by
 obtain ⟨ps, ⟨g0, t0, cs0, f0, p0, q0, hg0, ht0, hv0, hd0, _⟩, _⟩ := h
 obtain rfl := Option.some.inj (gKin.symm.trans hg0)
 obtain rfl := Option.some.inj (tKin.symm.trans ht0)
 obtain ⟨hlen, r0⟩ := row_kin hd0
 have c0 := World.var?_cell hg0 hv0
 obtain ⟨bt, bfr, hblk⟩ := qES hg0 hv0
 have hall : cs0 = qBd := by
  apply Array.ext_getElem?
  intro j
  have hsz : cs0.size = 36 := by simpa using hlen
  by_cases hj : j < 36
  ·have hi : j / 3 < 12 := by omega
   obtain ⟨x0, x1, x2⟩ := r0 (j / 3) hi
   obtain ⟨y0, y1, y2⟩ := qCb (j / 3) hi
   have hc : j = j / 3 * 3 \/ j = j / 3 * 3 + 1 \/ j = j / 3 * 3 + 2 := by omega
   rcases hc with hc | hc | hc
   ·rw [hc, y0, <- Array.getElem?_toList]; exact x0
   ·rw [hc, y1, <- Array.getElem?_toList]; exact x1
   ·rw [hc, y2, <- Array.getElem?_toList]; exact x2
  ·rw [Array.getElem?_eq_none (by omega), Array.getElem?_eq_none (by rw [qGx]; omega)]
 subst hall
 have conv : ∀ s : Int, 0 <= s -> ((s.toNat : Nat) : Int) = s := fun s h => by omega
 refine ⟨(Array.getElem?_eq_some_iff.1 hblk).1, ⟨bt, bfr, hblk⟩, ?_, ?_, ?_⟩
 ·intro s h0 h1; rw [c0, (qCb s.toNat (by omega)).1, conv s h0]
 ·intro s h0 h1; rw [c0, (qCb s.toNat (by omega)).2.1, conv s h0]
 ·intro s h0 h1; rw [c0, (qCb s.toNat (by omega)).2.2, conv s h0]
end Go.Proofs.YtgjmbjahgcndnaaGreatDoor.Xp
