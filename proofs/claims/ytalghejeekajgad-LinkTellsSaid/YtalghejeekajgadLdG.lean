/- The arguments of LinkTells: what a slice of objects that is handed in reads as. -/
import Derived.Test.YtalghejeekajgadLdR
import Derived.ProofKit
import Derived.Deep.Strs
import Derived.Deep.Slices
import Derived.Lib.SmallJoins
import Derived.SizedLaws
namespace Go.Proofs.Ytalghejeekajgad
open Go.ChangeShapes Go.WideShapes Go.ChangeAt Go.RowKit Go.Joins

theorem ocells_ob : Try.prog.cellsOf 26 = 3 := by kernel_rfl
theorem ocells_sym : Try.prog.cellsOf 49 = 2 := by kernel_rfl
theorem ocells_rel : Try.prog.cellsOf 51 = 4 := by kernel_rfl
theorem ocells_int : Try.prog.cellsOf 3 = 1 := by kernel_rfl
theorem ocells_str : Try.prog.cellsOf 9 = 1 := by kernel_rfl
theorem ocells_byte : Try.prog.cellsOf 5 = 1 := by kernel_rfl
theorem obytes_sym : Try.prog.bytesOf 49 = 24 := by kernel_rfl
theorem obytes_rel : Try.prog.bytesOf 51 = 40 := by kernel_rfl
theorem obytes_byte : Try.prog.bytesOf 5 = 1 := by kernel_rfl

instance : Inhabited Sy := ⟨⟨[], 0⟩⟩
instance : Inhabited Re := ⟨⟨0, 0, [], 0⟩⟩
instance : Inhabited Ob := ⟨⟨[], [], []⟩⟩

section
variable {H : Type} {enc : TypeId × Value → H} {W : World} {base : Nat} {spare : Nat → Bool} {held : Bool}

theorem oweights {P : Program} {e : TypeId} {n : Nat} : ∀ {l : List (DataW H)} {d : DataW H}, d ∈ l → n ∈ d.weights P e → n ∈ DataW.weightsAll P e l
  | x :: r, d, hd, hn => by
    rw [DataW.weightsAll]
    rcases List.mem_cons.1 hd with rfl | hd
    · exact List.mem_append_left _ hn
    · exact List.mem_append_right _ (oweights hd hn)

set_option maxRecDepth 100000 in
theorem bytes_arg {fuel : Nat} {cs : List Value} {d : DataW H} {ps : List MemPlace} (hf : DataW.trod enc Try.prog W base spare held fuel 22 cs = some (d, ps)) (hw : ∀ n, n ∈ d.weights Try.prog 22 → n ≤ reachBytes) :
    ∃ v l, cs = [v] ∧ OBytes W v l ∧ l.length ≤ 140737488351232 := by
  rcases Deep.open_slice Try.underlying22 hf with ⟨rfl, _⟩ | ⟨x, len, cap, m, n, D, Pl, rfl, _, hl, hm, hmm, hx, hel⟩
  · exact ⟨_, [], rfl, ⟨none, 0, rfl, Nat.zero_le _, fun h0 => absurd h0 (by simp)⟩, by simp⟩
  · have hlm : len ≤ m := by rw [hmm]; split <;> omega
    obtain ⟨hd, _⟩ := Prod.mk.inj hx
    have hbound : len ≤ 140737488351232 := by
      have h1 := hw ((((List.range len).map D).length + ((List.range (m - len)).map fun j => D (len + j)).length) * Try.prog.bytesOf 5) (by rw [hd, DataW.weights, Try.underlying22]; exact List.mem_cons_self)
      rw [obytes_byte] at h1
      have hr : reachBytes = 140737488351232 := rfl
      simp at h1
      omega
    have each : ∀ i, i < len → ∃ t : UInt8, W.cell? (x.add i) = some (.int .u8 (t.toNat : Int)) := by
      intro i hi
      obtain ⟨cs', h1, h2⟩ := hel i (by omega)
      rw [ocells_byte] at h1
      obtain ⟨_, hlen, hcell⟩ := World.cells?_some h1
      match cs', hlen with
      | [v0], _ =>
        have e0 := hcell 0 (by omega)
        rw [Deep.add_add] at e0
        obtain ⟨z0, q0, r0, w0⟩ := DataW.trod_int Try.underlying5 h2
        simp only [List.cons.injEq, and_true] at q0
        subst q0
        have hb := bounds_u8 w0
        refine ⟨UInt8.ofNat z0.toNat, ?_⟩
        have e1 : ((UInt8.ofNat z0.toNat).toNat : Int) = z0 := by rw [UInt8.toNat_ofNat']; omega
        rw [e1]
        simpa using e0
    obtain ⟨q, hq⟩ := Deep.choose_lt each
    have hts : ((List.range len).map q).length = len := by simp
    refine ⟨_, (List.range len).map q, rfl, ⟨some x, cap, by rw [hts], by rw [hts]; unfold maxLen; omega, fun h0 => ?_⟩, by rw [hts]; exact hbound⟩
    rw [hts] at h0
    obtain ⟨b, off, spot⟩ := x
    have hc := hq 0 h0
    have hspot : spot = none := by simpa [Addr.add] using World.cell?_spot hc
    subst hspot
    have hlt : b < W.heap.size := by
      rw [addr_add] at hc
      exact World.block_lt_of_cell? W _ hc
    refine ⟨b, off, rfl, hlt, fun i hi => ?_⟩
    rw [hts] at hi
    have h3 := hq i hi
    rw [addr_add] at h3
    simp only [List.getElem_map, List.getElem_range]
    exact h3

set_option maxRecDepth 100000 in
theorem syms_arg {fuel : Nat} {cs : List Value} {d : DataW H} {ps : List MemPlace} (hf : DataW.trod enc Try.prog W base spare held fuel 23 cs = some (d, ps)) (hw : ∀ n, n ∈ d.weights Try.prog 23 → n ≤ reachBytes) :
    ∃ v l, cs = [v] ∧ OSyms W v l ∧ l.length * 24 ≤ 140737488351232 ∧ ∀ s, s ∈ l → s.name.length ≤ maxLen := by
  rcases Deep.open_slice Try.underlying23 hf with ⟨rfl, _⟩ | ⟨x, len, cap, m, n, D, Pl, rfl, _, hl, hm, hmm, hx, hel⟩
  · exact ⟨_, [], rfl, ⟨none, 0, rfl, ⟨Nat.zero_le _, Nat.zero_le _⟩, fun h0 => absurd h0 (by simp)⟩, by simp, fun s hs => by cases hs⟩
  · have hlm : len ≤ m := by rw [hmm]; split <;> omega
    obtain ⟨hd, _⟩ := Prod.mk.inj hx
    have hr : reachBytes = 140737488351232 := rfl
    have hbound : len * 24 ≤ 140737488351232 := by
      have h1 := hw ((((List.range len).map D).length + ((List.range (m - len)).map fun j => D (len + j)).length) * Try.prog.bytesOf 49) (by rw [hd, DataW.weights, Try.underlying23]; exact List.mem_cons_self)
      rw [obytes_sym] at h1
      simp at h1
      omega
    have each : ∀ i, i < len → ∃ t : Sy, (W.cell? (x.add (i * 2)) = some (.string ⟨t.name.toArray⟩) ∧ W.cell? (x.add (i * 2 + 1)) = some (.int .i64 t.pos)) ∧ t.name.length ≤ maxLen := by
      intro i hi
      obtain ⟨cs', h1, h2⟩ := hel i (by omega)
      rw [ocells_sym] at h1
      obtain ⟨_, hlen, hcell⟩ := World.cells?_some h1
      obtain ⟨y0, y1, n2, hxy, _, g0, g1⟩ := trod_struct2 Try.underlying49 h2
      match cs', hlen with
      | [v0, v1], _ =>
        simp [ocells_int, ocells_str] at g0 g1
        have e0 := hcell 0 (by omega)
        have e1 := hcell 1 (by omega)
        rw [Deep.add_add] at e0 e1
        obtain ⟨z0, q0, r0, w0⟩ := DataW.trod_string Try.underlying9 g0
        obtain ⟨z1, q1, r1, w1⟩ := DataW.trod_int Try.underlying3 g1
        simp only [List.cons.injEq, and_true] at q0 q1
        subst q0 q1
        obtain ⟨hD, _⟩ := Prod.mk.inj hxy
        have hmem : D i ∈ (List.range len).map D := List.mem_map.2 ⟨i, List.mem_range.2 hi, rfl⟩
        have hnm := hw z0.data.toList.length (by
          rw [hd, DataW.weights, Try.underlying23]
          refine List.mem_cons_of_mem _ (List.mem_append_left _ (oweights hmem ?_))
          rw [hD, DataW.weights, Try.underlying49, r0]
          simp [DataW.weightsEach, DataW.weights])
        exact ⟨⟨z0.data.toList, z1⟩, ⟨by simpa using e0, by simpa using e1⟩, by unfold maxLen; simp only; omega⟩
    obtain ⟨q, hq⟩ := Deep.choose_lt each
    have hts : ((List.range len).map q).length = len := by simp
    refine ⟨_, (List.range len).map q, rfl, ⟨some x, cap, by rw [hts], ⟨by rw [hts]; unfold maxLen; omega, by rw [hts]; omega⟩, fun h0 => ?_⟩, by rw [hts]; exact hbound, fun s hs => ?_⟩
    · rw [hts] at h0
      obtain ⟨b, off, spot⟩ := x
      have hc := (hq 0 h0).1.1
      have hspot : spot = none := by simpa [Addr.add] using World.cell?_spot hc
      subst hspot
      have hlt : b < W.heap.size := by
        rw [addr_add] at hc
        exact World.block_lt_of_cell? W _ hc
      refine ⟨b, off, rfl, hlt, fun i hi => ?_⟩
      rw [hts] at hi
      have h3 := (hq i hi).1
      rw [addr_add, addr_add] at h3
      simp only [List.getElem_map, List.getElem_range]
      exact h3
    · obtain ⟨i, hi, rfl⟩ := List.mem_map.1 hs
      exact (hq i (List.mem_range.1 hi)).2

set_option maxRecDepth 100000 in
theorem rels_arg {fuel : Nat} {cs : List Value} {d : DataW H} {ps : List MemPlace} (hf : DataW.trod enc Try.prog W base spare held fuel 24 cs = some (d, ps)) (hw : ∀ n, n ∈ d.weights Try.prog 24 → n ≤ reachBytes) :
    ∃ v l, cs = [v] ∧ ORels W v l ∧ l.length * 40 ≤ 140737488351232 := by
  rcases Deep.open_slice Try.underlying24 hf with ⟨rfl, _⟩ | ⟨x, len, cap, m, n, D, Pl, rfl, _, hl, hm, hmm, hx, hel⟩
  · exact ⟨_, [], rfl, ⟨none, 0, rfl, Nat.zero_le _, fun h0 => absurd h0 (by simp)⟩, by simp⟩
  · have hlm : len ≤ m := by rw [hmm]; split <;> omega
    obtain ⟨hd, _⟩ := Prod.mk.inj hx
    have hr : reachBytes = 140737488351232 := rfl
    have hbound : len * 40 ≤ 140737488351232 := by
      have h1 := hw ((((List.range len).map D).length + ((List.range (m - len)).map fun j => D (len + j)).length) * Try.prog.bytesOf 51) (by rw [hd, DataW.weights, Try.underlying24]; exact List.mem_cons_self)
      rw [obytes_rel] at h1
      simp at h1
      omega
    have each : ∀ i, i < len → ∃ t : Re, W.cell? (x.add (i * 4)) = some (.int .i64 t.pos) ∧ W.cell? (x.add (i * 4 + 1)) = some (.int .i64 t.size) ∧ W.cell? (x.add (i * 4 + 2)) = some (.string ⟨t.name.toArray⟩) ∧ W.cell? (x.add (i * 4 + 3)) = some (.int .i64 t.add) := by
      intro i hi
      obtain ⟨cs', h1, h2⟩ := hel i (by omega)
      rw [ocells_rel] at h1
      obtain ⟨_, hlen, hcell⟩ := World.cells?_some h1
      obtain ⟨y0, y1, y2, y3, n2, hxy, _, g0, g1, g2, g3⟩ := Go.Joins.trod_struct4 Try.underlying51 h2
      match cs', hlen with
      | [v0, v1, v2, v3], _ =>
        simp [ocells_int, ocells_str] at g0 g1 g2 g3
        have e0 := hcell 0 (by omega)
        have e1 := hcell 1 (by omega)
        have e2 := hcell 2 (by omega)
        have e3 := hcell 3 (by omega)
        rw [Deep.add_add] at e0 e1 e2 e3
        obtain ⟨z0, q0, r0, w0⟩ := DataW.trod_int Try.underlying3 g0
        obtain ⟨z1, q1, r1, w1⟩ := DataW.trod_int Try.underlying3 g1
        obtain ⟨z2, q2, r2, w2⟩ := DataW.trod_string Try.underlying9 g2
        obtain ⟨z3, q3, r3, w3⟩ := DataW.trod_int Try.underlying3 g3
        simp only [List.cons.injEq, and_true] at q0 q1 q2 q3
        subst q0 q1 q2 q3
        exact ⟨⟨z0, z1, z2.data.toList, z3⟩, by simpa using e0, by simpa using e1, by simpa using e2, by simpa using e3⟩
    obtain ⟨q, hq⟩ := Deep.choose_lt each
    have hts : ((List.range len).map q).length = len := by simp
    refine ⟨_, (List.range len).map q, rfl, ⟨some x, cap, by rw [hts], by rw [hts]; unfold maxLen; omega, fun h0 => ?_⟩, by rw [hts]; exact hbound⟩
    rw [hts] at h0
    obtain ⟨b, off, spot⟩ := x
    have hc := (hq 0 h0).1
    have hspot : spot = none := by simpa [Addr.add] using World.cell?_spot hc
    subst hspot
    have hlt : b < W.heap.size := by
      rw [addr_add] at hc
      exact World.block_lt_of_cell? W _ hc
    refine ⟨b, off, rfl, hlt, fun i hi => ?_⟩
    rw [hts] at hi
    have h3 := hq i hi
    rw [addr_add, addr_add, addr_add, addr_add] at h3
    simp only [List.getElem_map, List.getElem_range]
    exact h3

theorem ocells_sb : Try.prog.cellsOf 22 = 1 := by kernel_rfl
theorem ocells_ss : Try.prog.cellsOf 23 = 1 := by kernel_rfl
theorem ocells_sr : Try.prog.cellsOf 24 = 1 := by kernel_rfl
theorem obytes_ob : Try.prog.bytesOf 26 = 72 := by kernel_rfl

set_option maxRecDepth 100000 in
theorem objs_arg {fuel : Nat} {cs : List Value} {d : DataW H} {ps : List MemPlace} (hf : DataW.trod enc Try.prog W base spare held fuel 36 cs = some (d, ps)) (hw : ∀ n, n ∈ d.weights Try.prog 36 → n ≤ reachBytes) :
    ∃ v l, cs = [v] ∧ OObs W v l ∧ l.length * 72 ≤ 140737488351232 ∧ ∀ o, o ∈ l → ∀ x, x ∈ o.syms → x.name.length ≤ maxLen := by
  rcases Deep.open_slice Try.underlying36 hf with ⟨rfl, _⟩ | ⟨x, len, cap, m, n, D, Pl, rfl, _, hl, hm, hmm, hx, hel⟩
  · exact ⟨_, [], rfl, ⟨none, 0, rfl, Nat.zero_le _, fun h0 => absurd h0 (by simp)⟩, by simp, fun o ho => by cases ho⟩
  · have hlm : len ≤ m := by rw [hmm]; split <;> omega
    obtain ⟨hd, _⟩ := Prod.mk.inj hx
    have hr : reachBytes = 140737488351232 := rfl
    have hbound : len * 72 ≤ 140737488351232 := by
      have h1 := hw ((((List.range len).map D).length + ((List.range (m - len)).map fun j => D (len + j)).length) * Try.prog.bytesOf 26) (by rw [hd, DataW.weights, Try.underlying36]; exact List.mem_cons_self)
      rw [obytes_ob] at h1
      simp at h1
      omega
    have each : ∀ i, i < len → ∃ t : Ob, (∃ c s r, W.cell? (x.add (i * 3)) = some c ∧ W.cell? (x.add (i * 3 + 1)) = some s ∧ W.cell? (x.add (i * 3 + 2)) = some r ∧ ObIn W c s r t) ∧ ∀ y, y ∈ t.syms → y.name.length ≤ maxLen := by
      intro i hi
      obtain ⟨cs', h1, h2⟩ := hel i (by omega)
      rw [ocells_ob] at h1
      obtain ⟨_, hlen, hcell⟩ := World.cells?_some h1
      obtain ⟨y0, y1, y2, n2, hxy, _, g0, g1, g2⟩ := Deep.trod_struct3 Try.underlying26 h2
      obtain ⟨hD, _⟩ := Prod.mk.inj hxy
      have hmem : D i ∈ (List.range len).map D := List.mem_map.2 ⟨i, List.mem_range.2 hi, rfl⟩
      have hwi : ∀ n, n ∈ (D i).weights Try.prog 26 → n ≤ reachBytes := fun n hn => hw n (by
        rw [hd, DataW.weights, Try.underlying36]
        exact List.mem_cons_of_mem _ (List.mem_append_left _ (oweights hmem hn)))
      match cs', hlen with
      | [v0, v1, v2], _ =>
        simp [ocells_sb, ocells_ss, ocells_sr] at g0 g1 g2
        have e0 := hcell 0 (by omega)
        have e1 := hcell 1 (by omega)
        have e2 := hcell 2 (by omega)
        rw [Deep.add_add] at e0 e1 e2
        obtain ⟨y0, p0⟩ := y0
        obtain ⟨y1, p1⟩ := y1
        obtain ⟨y2, p2⟩ := y2
        obtain ⟨cv, cl, f0, hcb, _⟩ := bytes_arg g0 (fun n hn => hwi n (by
          rw [hD, DataW.weights, Try.underlying26]
          simp [DataW.weightsEach, hn]))
        obtain ⟨sv, sl, f1, hsb, _, hnm⟩ := syms_arg g1 (fun n hn => hwi n (by
          rw [hD, DataW.weights, Try.underlying26]
          simp [DataW.weightsEach, hn]))
        obtain ⟨rv, rl, f2, hrb, _⟩ := rels_arg g2 (fun n hn => hwi n (by
          rw [hD, DataW.weights, Try.underlying26]
          simp [DataW.weightsEach, hn]))
        simp only [List.cons.injEq, and_true] at f0 f1 f2
        subst f0 f1 f2
        exact ⟨⟨cl, sl, rl⟩, ⟨v0, v1, v2, by simpa using e0, by simpa using e1, by simpa using e2, hcb, hsb, hrb⟩, hnm⟩
    obtain ⟨q, hq⟩ := Deep.choose_lt each
    have hts : ((List.range len).map q).length = len := by simp
    refine ⟨_, (List.range len).map q, rfl, ⟨some x, cap, by rw [hts], by rw [hts]; unfold maxLen; omega, fun h0 => ?_⟩, by rw [hts]; exact hbound, fun o ho => ?_⟩
    · rw [hts] at h0
      obtain ⟨b, off, spot⟩ := x
      obtain ⟨⟨_, _, _, hc, _⟩, _⟩ := hq 0 h0
      have hspot : spot = none := by simpa [Addr.add] using World.cell?_spot hc
      subst hspot
      have hlt : b < W.heap.size := by
        rw [addr_add] at hc
        exact World.block_lt_of_cell? W _ hc
      refine ⟨b, off, rfl, hlt, fun i hi => ?_⟩
      rw [hts] at hi
      obtain ⟨⟨c, s, r, h1, h2, h3, h4⟩, _⟩ := hq i hi
      rw [addr_add] at h1 h2 h3
      simp only [List.getElem_map, List.getElem_range]
      exact ⟨c, s, r, h1, h2, h3, h4⟩
    · obtain ⟨i, hi, rfl⟩ := List.mem_map.1 ho
      exact (hq i (List.mem_range.1 hi)).2

theorem oweights_of {ts : List TypeId} {ds : List (DataW H)} {j : Nat} {t : TypeId} {d : DataW H} (hsz : (DataW.weightsEach Try.prog ts ds).all (· ≤ reachBytes) = true) (ht : ts[j]? = some t) (hd : ds[j]? = some d) : ∀ n, n ∈ d.weights Try.prog t → n ≤ reachBytes := fun n hn => by
  have := List.all_eq_true.1 hsz n (DataW.weights_mem_each ht hd n hn)
  simpa using this
end

end Go.Proofs.Ytalghejeekajgad
