/- What the arguments of the wire's laws read as: a message, bytes; the table of widths. -/
import Derived.Test.YtmbjahjkgjkbhaaDoorWrK
import Derived.Test.YtmbjahjkgjkbhaaDoorTie
import Derived.Test.YtmbjahjkgjkbhaaDoorCards
import Derived.ProofKit
import Derived.LaidMore
import Derived.Deep.Slices
import Derived.Deep.Strs
import Derived.Lib.SmallJoins
import Derived.OpenShut
import Derived.Stop.Joined
import Derived.ShutString
import Derived.ChangeOld
import Derived.SevenTiedAt
import Derived.SizedLaws
namespace Go.Proofs.YtmbjahjkgjkbhaaDoor
open Go.ChangeShapes Go.WideShapes Go.ChangeAt Go.RowKit Go.Joins

theorem own : ownKnob Tryd.prog.godebug = none := by kernel_rfl
theorem laidOut : laidOutB Tryd.prog = true := by kernel_rfl
theorem ocells_byte : Tryd.prog.cellsOf 5 = 1 := by kernel_rfl
theorem ocells_int : Tryd.prog.cellsOf 3 = 1 := by kernel_rfl
theorem ocells_err : Tryd.prog.cellsOf 22 = 1 := by kernel_rfl
theorem ocells_fault : Tryd.prog.cellsOf 24 = 2 := by kernel_rfl
theorem ocells_sl : Tryd.prog.cellsOf 25 = 1 := by kernel_rfl
theorem ocells_msg : Tryd.prog.cellsOf 27 = 7 := by kernel_rfl
theorem ocells_wid : Tryd.prog.cellsOf 37 = 7 := by kernel_rfl
theorem obytes_byte : Tryd.prog.bytesOf 5 = 1 := by kernel_rfl

/-- The list of what is laid, as the rows have it. -/
def laidL : List (String × DataW Unit) := [("platelayer/wire.widths", Rows.laid_platelayer_wire_widths)]
theorem gWid : Tryd.prog.globalNamed "platelayer/wire.widths" = some 0 := by kernel_rfl
theorem tWid : (Tryd.prog.globals[0]?).map (·.type) = some 37 := by kernel_rfl
def wid : Nat → Int := fun k => [1, 1, 1, 2, 1, 2, 4].getD k 0
theorem widD_eq : (Rows.laid_platelayer_wire_widths : DataW Unit) = .agg ((List.range 7).map fun k => .lit (.int .i64 (wid k))) := by kernel_rfl

theorem row_wid {W : World} {enc : TypeId × Value → Unit} {base : Nat} {spare : Nat → Bool} {held : Bool} {fuel : Nat} {cs : List Value} {ps : List MemPlace}
    (h : DataW.trod enc Tryd.prog W base spare held fuel 37 cs = some (Rows.laid_platelayer_wire_widths, ps)) : ∀ i, i < 7 → cs[i]? = some (.int .i64 (wid i)) := by
  obtain ⟨xs, m, rfl, hx, hlen, hn, hel⟩ := DataW.trod_array Tryd.underlying37 h
  intro i hi
  have hxi := hel i hi
  rw [ocells_int] at hxi
  have hlt : i < xs.length := by omega
  rw [List.getElem?_eq_getElem hlt] at hxi
  obtain ⟨a, k0, e, _⟩ := DataW.trod_int Tryd.underlying3 hxi
  have hd : (xs[i]).1 = .lit (.int .i64 (wid i)) := by
    rw [widD_eq] at hx
    have := congrArg Prod.fst hx
    simp only [DataW.agg.injEq] at this
    have := congrArg (fun l => l[i]?) this
    simp [hi, hlt] at this
    exact this.symm
  rw [e] at hd
  simp only [DataW.lit.injEq, Lit.int.injEq, true_and] at hd
  rw [hd] at k0
  have := congrArg (fun x => x[0]?) k0
  simpa using this

theorem var_block {P : Program} {w : World} {n : String} {g : Nat} {cs : Array Value} (hg : P.globalNamed n = some g) (hv : w.var? P n = some cs) : ∃ t fr, w.heap[g]? = some (.cells cs t fr) := by
  simp only [World.var?, hg, Option.bind_some] at hv
  split at hv
  · rename_i c e f hh
    exact ⟨e, f, by rw [hh]; simpa using hv⟩
  · simp at hv

theorem wl_of {W : World} (h : laidMetH Tryd.prog laidL W) : WL W := by
  rw [MakeChecks.laidMetH_plain _ _ _ (by kernel_rfl)] at h
  obtain ⟨ps, ⟨g0, t0, cs0, f0, p0, q0, hg0, ht0, hv0, hd0, _, _⟩, _, _⟩ := h
  obtain rfl := Option.some.inj (gWid.symm.trans hg0)
  obtain rfl := Option.some.inj (tWid.symm.trans ht0)
  have r0 := row_wid hd0
  have c0 := World.var?_cell hg0 hv0
  obtain ⟨bt, bfr, hblk⟩ := var_block hg0 hv0
  have key : ∀ i, i < 7 → W.cell? ⟨0, i, none⟩ = some (.int .i64 (wid i)) := fun i hi => by
    rw [c0, ← Array.getElem?_toList]; exact r0 i hi
  exact ⟨key 0 (by decide), key 1 (by decide), key 2 (by decide), key 3 (by decide), key 4 (by decide), key 5 (by decide), key 6 (by decide), (Array.getElem?_eq_some_iff.1 hblk).1⟩

theorem door_met (os : Os) (args : Array Value) : laidMetH Tryd.prog laidL ((World.doorLaid Tryd.prog 400 os).forCall (fun _ _ => 0) ⟨#[], args, []⟩).memory :=
  laidMetH_of_parts3 (fuel := 8) (laidMet_of_run' 8 (by kernel_rfl) (by kernel_rfl)) (by kernel_rfl) (by kernel_rfl)

section
variable {H : Type} {enc : TypeId × Value → H} {W : World} {base : Nat} {spare : Nat → Bool} {held : Bool}

theorem oweights {P : Program} {e : TypeId} {n : Nat} : ∀ {l : List (DataW H)} {d : DataW H}, d ∈ l → n ∈ d.weights P e → n ∈ DataW.weightsAll P e l
  | x :: r, d, hd, hn => by
    rw [DataW.weightsAll]
    rcases List.mem_cons.1 hd with rfl | hd
    · exact List.mem_append_left _ hn
    · exact List.mem_append_right _ (oweights hd hn)

set_option maxRecDepth 100000 in
theorem bytes_arg {fuel : Nat} {cs : List Value} {d : DataW H} {ps : List MemPlace} (hf : DataW.trod enc Tryd.prog W base spare held fuel 25 cs = some (d, ps)) (hw : ∀ n, n ∈ d.weights Tryd.prog 25 → n ≤ reachBytes) :
    ∃ v l, cs = [v] ∧ RB W W.heap.size v l ∧ l.length ≤ 140737488351232 := by
  rcases Deep.open_slice Tryd.underlying25 hf with ⟨rfl, _⟩ | ⟨x, len, cap, m, n, D, Pl, rfl, _, hl, hm, hmm, hx, hel⟩
  · exact ⟨_, [], rfl, ⟨none, 0, rfl, .inl ⟨rfl, rfl, rfl⟩⟩, by simp⟩
  · have hlm : len ≤ m := by rw [hmm]; split <;> omega
    obtain ⟨hd, _⟩ := Prod.mk.inj hx
    have hbound : len ≤ 140737488351232 := by
      have h1 := hw ((((List.range len).map D).length + ((List.range (m - len)).map fun j => D (len + j)).length) * Tryd.prog.bytesOf 5) (by rw [hd, DataW.weights, Tryd.underlying25]; exact List.mem_cons_self)
      rw [obytes_byte] at h1
      have hr : reachBytes = 140737488351232 := rfl
      simp at h1
      omega
    have each : ∀ i, i < len → ∃ t : UInt8, W.cell? (x.add i) = some (.int .u8 (t.toNat : Int)) := by
      intro i hi
      obtain ⟨cs', h1, h2⟩ := hel i (by omega)
      rw [ocells_byte] at h1
      obtain ⟨_, hlen, hcell⟩ := World.cells?_some h1
      match cs', hlen with
      | [v0], _ =>
        have e0 := hcell 0 (by omega)
        rw [Deep.add_add] at e0
        obtain ⟨z0, q0, r0, w0⟩ := DataW.trod_int Tryd.underlying5 h2
        simp only [List.cons.injEq, and_true] at q0
        subst q0
        have hb := bounds_u8 w0
        refine ⟨UInt8.ofNat z0.toNat, ?_⟩
        have e1 : ((UInt8.ofNat z0.toNat).toNat : Int) = z0 := by rw [UInt8.toNat_ofNat']; omega
        rw [e1]
        simpa using e0
    obtain ⟨q, hq⟩ := Deep.choose_lt each
    have hts : ((List.range len).map q).length = len := by simp
    refine ⟨_, (List.range len).map q, rfl, ⟨some x, cap, by rw [hts], .inr ⟨x, rfl, by rw [hts]; omega, fun h0 => ?_⟩⟩, by rw [hts]; exact hbound⟩
    rw [hts] at h0
    obtain ⟨b, off, spot⟩ := x
    have hc := hq 0 h0
    have hspot : spot = none := by simpa [Addr.add] using World.cell?_spot hc
    subst hspot
    have hlt : b < W.heap.size := by
      rw [addr_add] at hc
      exact World.block_lt_of_cell? W _ hc
    refine ⟨b, off, rfl, hlt, fun i hi => ?_⟩
    rw [hts] at hi
    have h3 := hq i hi
    rw [addr_add] at h3
    simp only [List.getElem_map, List.getElem_range]
    exact h3


set_option maxRecDepth 100000 in
theorem msg_arg {fuel : Nat} {cs : List Value} {d : DataW H} {ps : List MemPlace} (hf : DataW.trod enc Tryd.prog W base spare held fuel 27 cs = some (d, ps)) (hw : ∀ n, n ∈ d.weights Tryd.prog 27 → n ≤ reachBytes) :
    ∃ m ad cap, cs = (msC m (.slice ad m.data.length cap)).toList ∧ RB W W.heap.size (.slice ad m.data.length cap) m.data ∧ m.data.length ≤ 140737488351232 := by
  obtain ⟨xs, n, _, hx, hlen, hxl, hff⟩ := DataW.trod_struct Tryd.underlying27 hf
  rw [ocells_msg] at hlen
  obtain ⟨hd, _⟩ := Prod.mk.inj hx
  match xs, hxl with
  | [y0, y1, y2, y3, y4, y5], _ =>
    match cs, hlen with
    | [v0, v1, v2, v3, v4, v5, v6], _ =>
      have h0 := hff 0 _ rfl
      have h1 := hff 1 _ rfl
      have h2 := hff 2 _ rfl
      have h3 := hff 3 _ rfl
      have h4 := hff 4 _ rfl
      have h5 := hff 5 _ rfl
      simp [ocells_int, ocells_fault, ocells_sl] at h0 h1 h2 h3 h4 h5
      obtain ⟨z0, q0, _, _⟩ := DataW.trod_int Tryd.underlying3 h0
      obtain ⟨z1, q1, _, _⟩ := DataW.trod_int Tryd.underlying3 h1
      obtain ⟨z2, q2, _, _⟩ := DataW.trod_int Tryd.underlying3 h2
      obtain ⟨z3, q3, _, _⟩ := DataW.trod_int Tryd.underlying3 h3
      obtain ⟨y40, y41, n4, hxy, _, g0, g1⟩ := trod_struct2 Tryd.underlying24 h4
      simp [ocells_int, ocells_err] at g0 g1
      obtain ⟨z4, q4, _, _⟩ := DataW.trod_int Tryd.underlying22 g0
      obtain ⟨z5, q5, _, _⟩ := DataW.trod_int Tryd.underlying3 g1
      obtain ⟨v, l, q6, hB, hBl⟩ := bytes_arg h5 (fun n hn => hw n (by
        rw [hd, DataW.weights, Tryd.underlying27]
        simp [DataW.weightsEach, hn]))
      simp only [List.cons.injEq, and_true] at q0 q1 q2 q3 q4 q5 q6
      subst q0 q1 q2 q3 q4 q5 q6
      obtain ⟨ad, cap, rfl, hB2⟩ := id hB
      exact ⟨⟨z0, z1, z2, z3, z4, z5, l⟩, ad, cap, rfl, hB, hBl⟩

theorem oweights_of {ts : List TypeId} {ds : List (DataW H)} {j : Nat} {t : TypeId} {d : DataW H} (hsz : (DataW.weightsEach Tryd.prog ts ds).all (· ≤ reachBytes) = true) (ht : ts[j]? = some t) (hd : ds[j]? = some d) : ∀ n, n ∈ d.weights Tryd.prog t → n ≤ reachBytes := fun n hn => by
  have := List.all_eq_true.1 hsz n (DataW.weights_mem_each ht hd n hn)
  simpa using this
end

end Go.Proofs.YtmbjahjkgjkbhaaDoor
