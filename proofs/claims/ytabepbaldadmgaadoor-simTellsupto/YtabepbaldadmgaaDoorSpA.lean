/- What a machine that is an argument reads as. -/
import Derived.Test.YtabepbaldadmgaaDoorSnZ
import Derived.ProofKit
import Derived.Deep.Strs
import Derived.Deep.Slices
import Derived.Lib.SmallJoins
import Derived.OpenShut
import Derived.SizedLaws
namespace Go.Proofs.YtabepbaldadmgaaDoor
open Go.ChangeShapes Go.WideShapes Go.ChangeAt Go.RowKit Go.Joins

theorem acells_m : Tryd.prog.cellsOf 29 = 24 := by kernel_rfl
theorem acells_r : Tryd.prog.cellsOf 22 = 16 := by kernel_rfl
theorem acells_img : Tryd.prog.cellsOf 26 = 3 := by kernel_rfl
theorem acells_int : Tryd.prog.cellsOf 3 = 1 := by kernel_rfl
theorem acells_bool : Tryd.prog.cellsOf 4 = 1 := by kernel_rfl
theorem acells_byte : Tryd.prog.cellsOf 5 = 1 := by kernel_rfl
theorem acells_str : Tryd.prog.cellsOf 9 = 1 := by kernel_rfl
theorem acells_sym : Tryd.prog.cellsOf 61 = 2 := by kernel_rfl
theorem acells_sb : Tryd.prog.cellsOf 23 = 1 := by kernel_rfl
theorem acells_ss : Tryd.prog.cellsOf 24 = 1 := by kernel_rfl
theorem acells_si : Tryd.prog.cellsOf 27 = 1 := by kernel_rfl

section
variable {H : Type} {enc : TypeId × Value → H} {W : World} {base : Nat} {spare : Nat → Bool} {held : Bool}

theorem bulk_pos (d : DataW H) : 1 ≤ Rows.uptoBulk d := by
  cases d with
  | lit l => cases l <;> simp [Rows.uptoBulk]
  | _ => simp [Rows.uptoBulk]
theorem bulk_len : ∀ l : List (DataW H), l.length ≤ Rows.uptoBulkAll l
  | [] => Nat.zero_le _
  | d :: l => by
    have := bulk_len l
    have := bulk_pos d
    simp only [List.length_cons, Rows.uptoBulkAll]
    omega
theorem bulk_mem {d : DataW H} : ∀ {l : List (DataW H)}, d ∈ l → Rows.uptoBulk d ≤ Rows.uptoBulkAll l
  | x :: l, h => by
    rw [Rows.uptoBulkAll]
    rcases List.mem_cons.1 h with rfl | h
    · omega
    · have := bulk_mem h
      omega
theorem bulk_slice (l s : List (DataW H)) : l.length ≤ Rows.uptoBulk (.slice l s) := by
  rw [Rows.uptoBulk]
  have := bulk_len l
  omega

theorem abytes {fuel : Nat} {cs : List Value} {d : DataW H} {ps : List MemPlace} (hf : DataW.trod enc Tryd.prog W base spare held fuel 23 cs = some (d, ps)) :
    ∃ ba bc l, cs = [.slice ba l.length bc] ∧ BRd W ba l ∧ l.length ≤ Rows.uptoBulk d := by
  rcases Deep.open_slice Tryd.underlying23 hf with ⟨rfl, _⟩ | ⟨x, len, cap, m, n, D, Pl, rfl, _, hl, hm, hmm, hx, hel⟩
  · exact ⟨none, 0, [], rfl, fun h => absurd h (by decide), Nat.zero_le _⟩
  · have hlm : len ≤ m := by rw [hmm]; split <;> omega
    obtain ⟨hd, _⟩ := Prod.mk.inj hx
    have hbk : len ≤ Rows.uptoBulk d := by
      rw [hd]
      have := bulk_slice ((List.range len).map D) ((List.range (m - len)).map fun j => D (len + j))
      simpa using this
    have each : ∀ i, i < len → ∃ t : UInt8, W.cell? (x.add i) = some (.int .u8 (t.toNat : Int)) := by
      intro i hi
      obtain ⟨cs', h1, h2⟩ := hel i (by omega)
      rw [acells_byte] at h1
      obtain ⟨_, hlen, hcell⟩ := World.cells?_some h1
      match cs', hlen with
      | [v0], _ =>
        have e0 := hcell 0 (by omega)
        rw [Deep.add_add] at e0
        obtain ⟨z0, q0, r0, w0⟩ := DataW.trod_int Tryd.underlying5 h2
        simp only [List.cons.injEq, and_true] at q0
        subst q0
        have hb := bounds_u8 w0
        refine ⟨UInt8.ofNat z0.toNat, ?_⟩
        have e1 : ((UInt8.ofNat z0.toNat).toNat : Int) = z0 := by rw [UInt8.toNat_ofNat']; omega
        rw [e1]
        simpa using e0
    obtain ⟨q, hq⟩ := Deep.choose_lt each
    have hts : ((List.range len).map q).length = len := by simp
    refine ⟨some x, cap, (List.range len).map q, by rw [hts], fun h0 => ?_, by rw [hts]; exact hbk⟩
    rw [hts] at h0
    obtain ⟨b, off, spot⟩ := x
    have hc := hq 0 h0
    have hspot : spot = none := by simpa [Addr.add] using World.cell?_spot hc
    subst hspot
    have hlt : b < W.heap.size := by
      rw [addr_add] at hc
      exact World.block_lt_of_cell? W _ hc
    refine ⟨b, off, rfl, hlt, fun i hi => ?_⟩
    rw [hts] at hi
    have h3 := hq i hi
    rw [addr_add] at h3
    rw [h3]
    simp [bsOf, hi, List.getD]
theorem aints {fuel : Nat} {cs : List Value} {d : DataW H} {ps : List MemPlace} (hf : DataW.trod enc Tryd.prog W base spare held fuel 27 cs = some (d, ps)) :
    ∃ ta tc l, cs = [.slice ta l.length tc] ∧ TRd W ta l ∧ l.length ≤ Rows.uptoBulk d := by
  rcases Deep.open_slice Tryd.underlying27 hf with ⟨rfl, _⟩ | ⟨x, len, cap, m, n, D, Pl, rfl, _, hl, hm, hmm, hx, hel⟩
  · exact ⟨none, 0, [], rfl, fun h => absurd h (by decide), Nat.zero_le _⟩
  · have hlm : len ≤ m := by rw [hmm]; split <;> omega
    obtain ⟨hd, _⟩ := Prod.mk.inj hx
    have hbk : len ≤ Rows.uptoBulk d := by
      rw [hd]
      have := bulk_slice ((List.range len).map D) ((List.range (m - len)).map fun j => D (len + j))
      simpa using this
    have each : ∀ i, i < len → ∃ t : Int, W.cell? (x.add i) = some (.int .i64 t) := by
      intro i hi
      obtain ⟨cs', h1, h2⟩ := hel i (by omega)
      rw [acells_int] at h1
      obtain ⟨_, hlen, hcell⟩ := World.cells?_some h1
      match cs', hlen with
      | [v0], _ =>
        have e0 := hcell 0 (by omega)
        rw [Deep.add_add] at e0
        obtain ⟨z0, q0, r0, w0⟩ := DataW.trod_int Tryd.underlying3 h2
        simp only [List.cons.injEq, and_true] at q0
        subst q0
        exact ⟨z0, by simpa using e0⟩
    obtain ⟨q, hq⟩ := Deep.choose_lt each
    have hts : ((List.range len).map q).length = len := by simp
    refine ⟨some x, cap, (List.range len).map q, by rw [hts], fun h0 => ?_, by rw [hts]; exact hbk⟩
    rw [hts] at h0
    obtain ⟨b, off, spot⟩ := x
    have hc := hq 0 h0
    have hspot : spot = none := by simpa [Addr.add] using World.cell?_spot hc
    subst hspot
    have hlt : b < W.heap.size := by
      rw [addr_add] at hc
      exact World.block_lt_of_cell? W _ hc
    refine ⟨b, off, rfl, hlt, fun i hi => ?_⟩
    rw [hts] at hi
    have h3 := hq i hi
    rw [addr_add] at h3
    rw [h3]
    simp [hi, List.getD]
instance : Inhabited Sy := ⟨⟨[], 0⟩⟩
set_option maxRecDepth 100000 in
theorem asyms {fuel : Nat} {cs : List Value} {d : DataW H} {ps : List MemPlace} (hf : DataW.trod enc Tryd.prog W base spare held fuel 24 cs = some (d, ps)) :
    ∃ s0 s2 l, cs = [.slice s0 l.length s2] ∧ SrcOf W s0 l.length (scells l) ∧ l.length ≤ Rows.uptoBulk d := by
  rcases Deep.open_slice Tryd.underlying24 hf with ⟨rfl, _⟩ | ⟨x, len, cap, m, n, D, Pl, rfl, _, hl, hm, hmm, hx, hel⟩
  · exact ⟨none, 0, [], rfl, fun h => absurd h (by decide), Nat.zero_le _⟩
  · have hlm : len ≤ m := by rw [hmm]; split <;> omega
    obtain ⟨hd, _⟩ := Prod.mk.inj hx
    have hbk : len ≤ Rows.uptoBulk d := by
      rw [hd]
      have := bulk_slice ((List.range len).map D) ((List.range (m - len)).map fun j => D (len + j))
      simpa using this
    have each : ∀ i, i < len → ∃ t : Sy, W.cell? (x.add (i * 2)) = some (.string ⟨t.name.toArray⟩) ∧ W.cell? (x.add (i * 2 + 1)) = some (.int .i64 t.pos) := by
      intro i hi
      obtain ⟨cs', h1, h2⟩ := hel i (by omega)
      rw [acells_sym] at h1
      obtain ⟨_, hlen, hcell⟩ := World.cells?_some h1
      obtain ⟨y0, y1, n2, hxy, _, g0, g1⟩ := trod_struct2 Tryd.underlying61 h2
      match cs', hlen with
      | [v0, v1], _ =>
        simp [acells_int, acells_str] at g0 g1
        have e0 := hcell 0 (by omega)
        have e1 := hcell 1 (by omega)
        rw [Deep.add_add] at e0 e1
        obtain ⟨z0, q0, r0, w0⟩ := DataW.trod_string Tryd.underlying9 g0
        obtain ⟨z1, q1, r1, w1⟩ := DataW.trod_int Tryd.underlying3 g1
        simp only [List.cons.injEq, and_true] at q0 q1
        subst q0 q1
        exact ⟨⟨z0.data.toList, z1⟩, by simpa using e0, by simpa using e1⟩
    obtain ⟨q, hq⟩ := Deep.choose_lt each
    have hts : ((List.range len).map q).length = len := by simp
    refine ⟨some x, cap, (List.range len).map q, by rw [hts], fun h0 => ?_, by rw [hts]; exact hbk⟩
    rw [hts] at h0
    obtain ⟨b, off, spot⟩ := x
    have hc := (hq 0 h0).1
    have hspot : spot = none := by simpa [Addr.add] using World.cell?_spot hc
    subst hspot
    have hlt : b < W.heap.size := by
      rw [addr_add] at hc
      exact World.block_lt_of_cell? W _ hc
    have hOS : OSyms W (.slice (some ⟨b, off, none⟩) ((List.range len).map q).length (((List.range len).map q).length + maxLen)) ((List.range len).map q) → SrcOf W (some ⟨b, off, none⟩) ((List.range len).map q).length (scells ((List.range len).map q)) := fun h => by
      obtain ⟨ad, cap', e, hs⟩ := h.src
      cases e
      exact hs
    by_cases hmx : len ≤ maxLen
    · refine hOS ⟨_, _, rfl, ⟨by rw [hts]; exact hmx, by omega⟩, fun _ => ⟨b, off, rfl, hlt, fun i hi => ?_⟩⟩ (by rw [hts]; exact h0)
      rw [hts] at hi
      obtain ⟨h3, h4⟩ := hq i hi
      rw [addr_add] at h3 h4
      simp only [List.getElem_map, List.getElem_range]
      exact ⟨h3, by rw [← h4, Nat.add_assoc]⟩
    · omega

set_option maxRecDepth 100000 in
set_option maxHeartbeats 2000000 in
theorem amachine {fuel : Nat} {cs : List Value} {d : DataW H} {ps : List MemPlace} (hf : DataW.trod enc Tryd.prog W base spare held fuel 29 cs = some (d, ps)) (hbk : Rows.uptoBulk d ≤ 1048576) :
    ∃ c m sy, cs = Array.toList c ∧ MV W (.agg c) m sy ∧ ArgM m sy := by
  obtain ⟨xs, n, _, hx, hlen, hxl, hff⟩ := DataW.trod_struct Tryd.underlying29 hf
  rw [acells_m] at hlen
  obtain ⟨hd, _⟩ := Prod.mk.inj hx
  have hbk2 : ∀ (i : Nat) (y : DataW H × List MemPlace), xs[i]? = some y → Rows.uptoBulk y.1 ≤ 1048576 := fun i y hy => by
    have hm : y.1 ∈ xs.map (·.1) := List.mem_map.2 ⟨y, List.mem_of_getElem? hy, rfl⟩
    have h1 := bulk_mem hm
    rw [hd, Rows.uptoBulk] at hbk
    omega
  match xs, hxl with
  | [y0, y1, y2, y3, y4, y5, y6], _ =>
    match cs, hlen with
    | [v0, v1, v2, v3, v4, v5, v6, v7, v8, v9, v10, v11, v12, v13, v14, v15, v16, v17, v18, v19, v20, v21, v22, v23], _ =>
      have h0 := hff 0 _ rfl
      have h1 := hff 1 _ rfl
      have h2 := hff 2 _ rfl
      have h3 := hff 3 _ rfl
      have h4 := hff 4 _ rfl
      have h5 := hff 5 _ rfl
      have h6 := hff 6 _ rfl
      simp [acells_r, acells_bool, acells_int, acells_img, acells_si] at h0 h1 h2 h3 h4 h5 h6
      obtain ⟨xr, nr, _, _, hrl, hrn, hrr⟩ := DataW.trod_array Tryd.underlying22 h0
      have hreg : ∀ (i : Nat) (v : Value), i < 16 → [v0, v1, v2, v3, v4, v5, v6, v7, v8, v9, v10, v11, v12, v13, v14, v15][i]? = some v → ∃ z : Int, v = .int .i64 z := fun i v hi hv => by
        have hi2 := hrr i hi
        rw [acells_int, Nat.mul_one] at hi2
        have hlt : i < xr.length := by omega
        rw [List.getElem?_eq_getElem hlt] at hi2
        obtain ⟨z, q, _, _⟩ := DataW.trod_int Tryd.underlying3 hi2
        refine ⟨z, ?_⟩
        have := congrArg (fun l => l[0]?) q
        simp only [List.getElem?_take, List.getElem?_drop] at this
        simp at this
        rw [hv] at this
        exact Option.some.inj this
      obtain ⟨z0, rfl⟩ := hreg 0 _ (by decide) rfl
      obtain ⟨z1, rfl⟩ := hreg 1 _ (by decide) rfl
      obtain ⟨z2, rfl⟩ := hreg 2 _ (by decide) rfl
      obtain ⟨z3, rfl⟩ := hreg 3 _ (by decide) rfl
      obtain ⟨z4, rfl⟩ := hreg 4 _ (by decide) rfl
      obtain ⟨z5, rfl⟩ := hreg 5 _ (by decide) rfl
      obtain ⟨z6, rfl⟩ := hreg 6 _ (by decide) rfl
      obtain ⟨z7, rfl⟩ := hreg 7 _ (by decide) rfl
      obtain ⟨z8, rfl⟩ := hreg 8 _ (by decide) rfl
      obtain ⟨z9, rfl⟩ := hreg 9 _ (by decide) rfl
      obtain ⟨z10, rfl⟩ := hreg 10 _ (by decide) rfl
      obtain ⟨z11, rfl⟩ := hreg 11 _ (by decide) rfl
      obtain ⟨z12, rfl⟩ := hreg 12 _ (by decide) rfl
      obtain ⟨z13, rfl⟩ := hreg 13 _ (by decide) rfl
      obtain ⟨z14, rfl⟩ := hreg 14 _ (by decide) rfl
      obtain ⟨z15, rfl⟩ := hreg 15 _ (by decide) rfl
      obtain ⟨zt, q1, _⟩ := DataW.trod_bool Tryd.underlying4 h1
      obtain ⟨z17, q2, _, _⟩ := DataW.trod_int Tryd.underlying3 h2
      obtain ⟨z18, q3, _, _⟩ := DataW.trod_int Tryd.underlying3 h3
      obtain ⟨z23, q6, _, _⟩ := DataW.trod_int Tryd.underlying3 h6
      obtain ⟨y40, y41, y42, n4, hxy, _, g0, g1, g2⟩ := Deep.trod_struct3 Tryd.underlying26 h4
      simp [acells_int, acells_sb, acells_ss] at g0 g1 g2
      obtain ⟨z19, q40, _, _⟩ := DataW.trod_int Tryd.underlying3 g0
      have hb4 : Rows.uptoBulk y41.1 ≤ 1048576 ∧ Rows.uptoBulk y42.1 ≤ 1048576 := by
        have := hbk2 4 y4 rfl
        rw [(Prod.mk.inj hxy).1, Rows.uptoBulk] at this
        simp only [Rows.uptoBulkAll] at this
        omega
      obtain ⟨ba, bc, l, q41, hB, hBl⟩ := abytes g1
      obtain ⟨s0, s2, sy, q42, hS, hSl⟩ := asyms g2
      obtain ⟨ta, tc, tl, q5, hT, hTl⟩ := aints h5
      simp only [List.cons.injEq, and_true] at q1 q2 q3 q40 q41 q42 q5 q6
      subst q1 q2 q3 q40 q41 q42 q5 q6
      have hb5 := hbk2 5 y5 rfl
      refine ⟨mC ⟨fun k => [z0, z1, z2, z3, z4, z5, z6, z7, z8, z9, z10, z11, z12, z13, z14, z15].getD k 0, zt, z17, z18, z19, l, tl, z23⟩ ba bc (.slice s0 sy.length s2) ta tc, ⟨fun k => [z0, z1, z2, z3, z4, z5, z6, z7, z8, z9, z10, z11, z12, z13, z14, z15].getD k 0, zt, z17, z18, z19, l, tl, z23⟩, sy, rfl, ⟨_, _, _, _, _, _, rfl, hB, hT, hS⟩, ⟨by show l.length ≤ _; omega, by show tl.length ≤ _; omega, by omega, fun k hk => ?_⟩⟩
      show List.getD _ k 0 = 0
      rw [List.getD_eq_getElem?_getD, List.getElem?_eq_none (by simpa using hk)]
      rfl

end
end Go.Proofs.YtabepbaldadmgaaDoor
