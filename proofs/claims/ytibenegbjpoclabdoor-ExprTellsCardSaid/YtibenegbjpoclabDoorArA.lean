/- What the arguments read as: tokens, expressions (trees in memory), names' numbers. -/
import Derived.Test.YtibenegbjpoclabDoorExMem
import Derived.ProofKit
import Derived.Deep.Slices
import Derived.Lib.SmallJoins
import Derived.SizedLaws
namespace Go.Proofs.YtibenegbjpoclabDoor
open Go.ChangeShapes Go.WideShapes Go.ChangeAt Go.RowKit Go.Joins

theorem acells_tok : Tryd.prog.cellsOf 63 = 3 := by kernel_rfl
theorem acells_expr : Tryd.prog.cellsOf 25 = 4 := by kernel_rfl
theorem acells_equ : Tryd.prog.cellsOf 41 = 2 := by kernel_rfl
theorem acells_kids : Tryd.prog.cellsOf 23 = 1 := by kernel_rfl
theorem acells_int : Tryd.prog.cellsOf 3 = 1 := by kernel_rfl
theorem acells_str : Tryd.prog.cellsOf 9 = 1 := by kernel_rfl
theorem abytes_expr : Tryd.prog.bytesOf 25 = 56 := by kernel_rfl

instance : Inhabited Tok := ⟨⟨0, 0, []⟩⟩
instance : Inhabited Ex := ⟨.mk 0 0 [] []⟩

theorem addN (b off j : Nat) : (⟨b, off, none⟩ : Addr).add j = ⟨b, off + j, none⟩ := by unfold Addr.add; split <;> simp_all

section
variable {H : Type} {enc : TypeId × Value → H} {W : World} {base : Nat} {spare : Nat → Bool} {held : Bool}

set_option maxRecDepth 100000 in
theorem toks_arg {a : Option Addr} {len cap : Nat} {d : DataW H} {ps : List MemPlace}
    (h : DataW.Trod enc Tryd.prog W base spare held 22 (.slice a len cap) d ps) : ∃ ts : List Tok, TReads W (.slice a len cap) ts := by
  obtain ⟨fuel, hf⟩ := h
  rcases Deep.open_slice Tryd.underlying22 hf with ⟨hcs, _⟩ | ⟨x, l, c, m, n, D, Pl, hcs, _, hl, hm, hmm, hx, hel⟩
  · simp [Value.cells] at hcs
    obtain ⟨rfl, rfl, rfl⟩ := hcs
    exact ⟨[], none, 0, rfl, Nat.zero_le _, fun h0 => absurd h0 (by simp)⟩
  · simp [Value.cells] at hcs
    obtain ⟨rfl, rfl, rfl⟩ := hcs
    have hlm : len ≤ m := by rw [hmm]; split <;> omega
    have each : ∀ i, i < len → ∃ t : Tok, W.cell? (x.add (i * 3)) = some (.int .i64 t.kind) ∧ W.cell? (x.add (i * 3 + 1)) = some (.int .i64 t.n) ∧ W.cell? (x.add (i * 3 + 2)) = some (.string ⟨t.text.toArray⟩) := by
      intro i hi
      obtain ⟨cs', h1, h2⟩ := hel i (by omega)
      rw [acells_tok] at h1
      obtain ⟨_, hlen, hcell⟩ := World.cells?_some h1
      obtain ⟨xs, k, hk, hxy, _, hxl, hff⟩ := DataW.trod_struct Tryd.underlying63 h2
      match xs, hxl, cs', hlen with
      | [y0, y1, y2], _, [v0, v1, v2], _ =>
        have g0 := hff 0 _ rfl
        have g1 := hff 1 _ rfl
        have g2 := hff 2 _ rfl
        simp [acells_int, acells_str] at g0 g1 g2
        have e0 := hcell 0 (by omega)
        have e1 := hcell 1 (by omega)
        have e2 := hcell 2 (by omega)
        rw [Deep.add_add] at e0 e1 e2
        obtain ⟨z0, q0, r0, w0⟩ := DataW.trod_int Tryd.underlying3 g0
        obtain ⟨z1, q1, r1, w1⟩ := DataW.trod_int Tryd.underlying3 g1
        obtain ⟨z2, q2, r2, w2⟩ := DataW.trod_string Tryd.underlying9 g2
        simp only [List.cons.injEq, and_true] at q0 q1 q2
        subst q0 q1 q2 r0 r1 r2
        exact ⟨⟨z0, z1, z2.data.toList⟩, by simpa using e0, by simpa using e1, by simpa using e2⟩
    obtain ⟨q, hq⟩ := Deep.choose_lt each
    have hts : ((List.range len).map q).length = len := by simp
    refine ⟨(List.range len).map q, some x, cap, by rw [hts], by rw [hts]; omega, fun h0 => ?_⟩
    rw [hts] at h0
    obtain ⟨b, off, spot⟩ := x
    have hc := (hq 0 h0).1
    have hspot : spot = none := by simpa [Addr.add] using World.cell?_spot hc
    subst hspot
    have hlt : b < W.heap.size := by
      rw [addN] at hc
      exact World.block_lt_of_cell? W _ hc
    refine ⟨b, off, rfl, hlt, fun i hi => ?_⟩
    rw [hts] at hi
    have h3 := hq i hi
    rw [addN, addN, addN] at h3
    simp only [List.getElem_map, List.getElem_range]
    exact h3

set_option maxRecDepth 100000 in
theorem equs_arg {a : Option Addr} {len cap : Nat} {d : DataW H} {ps : List MemPlace}
    (h : DataW.Trod enc Tryd.prog W base spare held 26 (.slice a len cap) d ps) : ∃ l : List (List UInt8 × Int), QReads W (.slice a len cap) l := by
  obtain ⟨fuel, hf⟩ := h
  rcases Deep.open_slice Tryd.underlying26 hf with ⟨hcs, _⟩ | ⟨x, l, c, m, n, D, Pl, hcs, _, hl, hm, hmm, hx, hel⟩
  · simp [Value.cells] at hcs
    obtain ⟨rfl, rfl, rfl⟩ := hcs
    exact ⟨[], none, 0, rfl, Nat.zero_le _, fun h0 => absurd h0 (by simp)⟩
  · simp [Value.cells] at hcs
    obtain ⟨rfl, rfl, rfl⟩ := hcs
    have hlm : len ≤ m := by rw [hmm]; split <;> omega
    have each : ∀ i, i < len → ∃ t : List UInt8 × Int, W.cell? (x.add (i * 2)) = some (.string ⟨t.1.toArray⟩) ∧ W.cell? (x.add (i * 2 + 1)) = some (.int .i64 t.2) := by
      intro i hi
      obtain ⟨cs', h1, h2⟩ := hel i (by omega)
      rw [acells_equ] at h1
      obtain ⟨_, hlen, hcell⟩ := World.cells?_some h1
      obtain ⟨xs, k, hk, hxy, _, hxl, hff⟩ := DataW.trod_struct Tryd.underlying41 h2
      match xs, hxl, cs', hlen with
      | [y0, y1], _, [v0, v1], _ =>
        have g0 := hff 0 _ rfl
        have g1 := hff 1 _ rfl
        simp [acells_int, acells_str] at g0 g1
        have e0 := hcell 0 (by omega)
        have e1 := hcell 1 (by omega)
        rw [Deep.add_add] at e0 e1
        obtain ⟨z0, q0, r0, w0⟩ := DataW.trod_string Tryd.underlying9 g0
        obtain ⟨z1, q1, r1, w1⟩ := DataW.trod_int Tryd.underlying3 g1
        simp only [List.cons.injEq, and_true] at q0 q1
        subst q0 q1 r0 r1
        exact ⟨⟨z0.data.toList, z1⟩, by simpa using e0, by simpa using e1⟩
    obtain ⟨q, hq⟩ := Deep.choose_lt each
    have hts : ((List.range len).map q).length = len := by simp
    refine ⟨(List.range len).map q, some x, cap, by rw [hts], by rw [hts]; omega, fun h0 => ?_⟩
    rw [hts] at h0
    obtain ⟨b, off, spot⟩ := x
    have hc := (hq 0 h0).1
    have hspot : spot = none := by simpa [Addr.add] using World.cell?_spot hc
    subst hspot
    have hlt : b < W.heap.size := by
      rw [addN] at hc
      exact World.block_lt_of_cell? W _ hc
    refine ⟨b, off, rfl, hlt, fun i hi => ?_⟩
    rw [hts] at hi
    have h3 := hq i hi
    rw [addN, addN] at h3
    simp only [List.getElem_map, List.getElem_range]
    exact h3

theorem weights_all {P : Program} {e : TypeId} {n : Nat} : ∀ {l : List (DataW H)} {d : DataW H}, d ∈ l → n ∈ d.weights P e → n ∈ DataW.weightsAll P e l
  | x :: r, d, hd, hn => by
    rw [DataW.weightsAll]
    rcases List.mem_cons.1 hd with rfl | hd
    · exact List.mem_append_left _ hn
    · exact List.mem_append_right _ (weights_all hd hn)

set_option maxRecDepth 100000 in
theorem kids_arg : ∀ (k : Nat) {fuel : Nat} {cs : List Value} {d : DataW H} {ps : List MemPlace}, SizeOf.sizeOf d < k →
    DataW.trod enc Tryd.prog W base spare held fuel 23 cs = some (d, ps) → (∀ n, n ∈ d.weights Tryd.prog 23 → n ≤ reachBytes) → ∃ v ks, cs = [v] ∧ KR W (fun _ => True) v ks
  | 0, _, _, _, _, h, _, _ => absurd h (by omega)
  | k + 1, fuel, cs, d, ps, hk, hf, hw => by
    rcases Deep.open_slice Tryd.underlying23 hf with ⟨rfl, _⟩ | ⟨x, len, cap, m, n, D, Pl, rfl, _, hl, hm, hmm, hx, hel⟩
    · exact ⟨_, [], rfl, KR.nil _ _⟩
    · have hlm : len ≤ m := by rw [hmm]; split <;> omega
      obtain ⟨hd, _⟩ := Prod.mk.inj hx
      have hbound : len ≤ 2513169434843 := by
        have h1 := hw ((((List.range len).map D).length + ((List.range (m - len)).map fun j => D (len + j)).length) * Tryd.prog.bytesOf 25) (by rw [hd, DataW.weights, Tryd.underlying23]; exact List.mem_cons_self)
        rw [abytes_expr] at h1
        have hr : reachBytes = 140737488351232 := rfl
        simp at h1
        omega
      have each : ∀ i, i < len → ∃ t : Ex × Value, (W.cell? (x.add (i * 4)) = some (.int .i64 t.1.kind) ∧ W.cell? (x.add (i * 4 + 1)) = some (.int .i64 t.1.n) ∧ W.cell? (x.add (i * 4 + 2)) = some (.string ⟨t.1.name.toArray⟩) ∧ W.cell? (x.add (i * 4 + 3)) = some t.2) ∧ KR W (fun _ => True) t.2 t.1.kids := by
        intro i hi
        obtain ⟨cs', h1, h2⟩ := hel i (by omega)
        rw [acells_expr] at h1
        obtain ⟨_, hlen, hcell⟩ := World.cells?_some h1
        obtain ⟨y0, y1, y2, y3, n2, hxy, _, g0, g1, g2, g3⟩ := Go.Joins.trod_struct4 Tryd.underlying25 h2
        match cs', hlen with
        | [v0, v1, v2, v3], _ =>
          simp [acells_int, acells_str, acells_kids] at g0 g1 g2 g3
          have e0 := hcell 0 (by omega)
          have e1 := hcell 1 (by omega)
          have e2 := hcell 2 (by omega)
          have e3 := hcell 3 (by omega)
          rw [Deep.add_add] at e0 e1 e2 e3
          obtain ⟨z0, q0, r0, w0⟩ := DataW.trod_int Tryd.underlying3 g0
          obtain ⟨z1, q1, r1, w1⟩ := DataW.trod_int Tryd.underlying3 g1
          obtain ⟨z2, q2, r2, w2⟩ := DataW.trod_string Tryd.underlying9 g2
          simp only [List.cons.injEq, and_true] at q0 q1 q2
          subst q0 q1 q2
          obtain ⟨hD, _⟩ := Prod.mk.inj hxy
          have hmem : D i ∈ (List.range len).map D := List.mem_map.2 ⟨i, List.mem_range.2 hi, rfl⟩
          have s1 : SizeOf.sizeOf (D i) < SizeOf.sizeOf d := by
            have := List.sizeOf_lt_of_mem hmem
            rw [hd]
            simp only [DataW.slice.sizeOf_spec]
            omega
          have s2 : SizeOf.sizeOf y3.1 < SizeOf.sizeOf (D i) := by
            rw [hD]
            simp only [DataW.agg.sizeOf_spec, List.cons.sizeOf_spec]
            omega
          have w3 : ∀ n, n ∈ y3.1.weights Tryd.prog 23 → n ≤ reachBytes := by
            intro n hn
            refine hw n ?_
            rw [hd, DataW.weights, Tryd.underlying23]
            refine List.mem_cons_of_mem _ (List.mem_append_left _ (weights_all hmem ?_))
            rw [hD, DataW.weights, Tryd.underlying25]
            simp [DataW.weightsEach, hn]
          obtain ⟨v, ks, hv, hkr⟩ := kids_arg k (by omega) g3 w3
          simp only [List.cons.injEq, and_true] at hv
          subst hv
          exact ⟨⟨.mk z0 z1 z2.data.toList ks, v3⟩, ⟨by simpa [Ex.kind] using e0, by simpa [Ex.n] using e1, by simpa [Ex.name] using e2, by simpa using e3⟩, hkr⟩
      obtain ⟨q, hq⟩ := Deep.choose_lt each
      obtain ⟨ks, hks⟩ : ∃ ks, ks = (List.range len).map fun i => (q i).1 := ⟨_, rfl⟩
      have hlk : ks.length = len := by rw [hks]; simp
      have hat : ∀ i (h : i < ks.length), ks[i] = (q i).1 := fun i h => by simp [hks]
      clear hks
      subst hlk
      refine ⟨_, ks, rfl, .mk (some x) cap ks (fun i => (q i).2) hbound (fun h0 => ?_) (fun i hi => by rw [hat]; exact (hq i hi).2)⟩
      obtain ⟨b, off, spot⟩ := x
      have hc := (hq 0 h0).1.1
      have hspot : spot = none := by simpa [Addr.add] using World.cell?_spot hc
      subst hspot
      have hlt : b < W.heap.size := by
        rw [addN] at hc
        exact World.block_lt_of_cell? W _ hc
      refine ⟨b, off, rfl, trivial, hlt, fun i hi => ?_⟩
      have h3 := (hq i hi).1
      rw [addN, addN, addN, addN] at h3
      rw [hat]
      exact h3
end

end Go.Proofs.YtibenegbjpoclabDoor
