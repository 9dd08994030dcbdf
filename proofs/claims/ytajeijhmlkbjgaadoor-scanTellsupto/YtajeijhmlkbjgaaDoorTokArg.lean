/- What a slice of tokens among the arguments reads as, and how long it is printed, where the bulk is bounded. -/
import Derived.Test.YtajeijhmlkbjgaaDoorPrintA
import Derived.Test.YtajeijhmlkbjgaaDoorFrame
import Derived.Deep.Slices
namespace Go.Proofs.YtajeijhmlkbjgaaDoor
open Go.ChangeShapes Go.WideShapes Go.ChangeAt Go.RowKit Go.Joins

def sumT (ts : List Tok) : Nat := (ts.map fun t => t.text.length + 4).sum

theorem prT_len (t : Tok) (h : -9223372036854775808 ≤ t.n ∧ t.n ≤ 9223372036854775807) : (prT t).length ≤ t.text.length + 21 := by
  unfold prT
  split
  · have := Lib.itoa_length_le t.n h.1 h.2
    omega
  · omega
theorem lens_len : ∀ ts : List Tok, (∀ t, t ∈ ts → -9223372036854775808 ≤ t.n ∧ t.n ≤ 9223372036854775807) → Lib.lens (ts.map prT) + ts.length ≤ 22 * sumT ts
  | [], _ => by simp [Lib.lens, sumT]
  | t :: r, h => by
    have ih := lens_len r (fun x hx => h x (List.mem_cons_of_mem _ hx))
    have h1 := prT_len t (h t (List.mem_cons_self))
    simp only [Lib.lens, sumT, List.map_cons, List.sum_cons, List.length_cons] at ih ⊢
    omega
theorem print_len (ts : List Tok) (h : ∀ t, t ∈ ts → -9223372036854775808 ≤ t.n ∧ t.n ≤ 9223372036854775807) : (printL ts).length ≤ 22 * sumT ts := by
  have h1 := lens_len ts h
  unfold printL
  cases ts with
  | nil => simp [Lib.join_nil]
  | cons t r =>
    rw [List.map_cons, Lib.join_length]
    simp only [List.length_cons, List.length_map, List.length_nil, List.map_cons] at h1 ⊢
    omega

theorem bulk_tok {H : Type} (a b : Int) (c : List UInt8) : Rows.uptoBulk (DataW.agg [.lit (.int .i64 a), .lit (.int .i64 b), .lit (.string c)] : DataW H) = c.length + 4 := by
  simp [Rows.uptoBulk, Rows.uptoBulkAll]
  omega

theorem bulk_map {H : Type} {D : Nat → DataW H} {f : Nat → Tok} : ∀ (l : List Nat), (∀ i, i ∈ l → Rows.uptoBulk (D i) = (f i).text.length + 4) → Rows.uptoBulkAll (l.map D) = sumT (l.map f)
  | [], _ => by simp [Rows.uptoBulkAll, sumT]
  | i :: r, h => by
    have ih := bulk_map r (fun x hx => h x (List.mem_cons_of_mem _ hx))
    rw [List.map_cons, Rows.uptoBulkAll, ih, h i (List.mem_cons_self)]
    simp [sumT]

theorem cells84 : Tryd.prog.cellsOf 84 = 3 := by kernel_rfl
theorem cells3 : Tryd.prog.cellsOf 3 = 1 := by kernel_rfl

instance : Inhabited Tok := ⟨⟨0, 0, []⟩⟩

set_option maxRecDepth 100000 in
theorem toks_read {H : Type} {enc : TypeId × Value → H} {W : World} {base : Nat} {spare : Nat → Bool} {held : Bool} {a : Option Addr} {len cap : Nat} {d : DataW H} {ps : List MemPlace}
    (h : DataW.Trod enc Tryd.prog W base spare held 49 (.slice a len cap) d ps) (hbulk : Rows.uptoBulk d ≤ 1048576) :
    ∃ ts : List Tok, TReads W (.slice a len cap) ts ∧ ts.length ≤ 1048576 ∧ Fits ts ∧ (printL ts).length ≤ 140737488355328 := by
  obtain ⟨fuel, hf⟩ := h
  rcases Deep.open_slice Tryd.underlying49 hf with ⟨hcs, _⟩ | ⟨x, l, c, m, n, D, Pl, hcs, _, hl, hm, hmm, hx, hel⟩
  · simp [Value.cells] at hcs
    obtain ⟨rfl, rfl, rfl⟩ := hcs
    exact ⟨[], ⟨none, 0, rfl, Nat.zero_le _, fun h0 => absurd h0 (by simp)⟩, by simp, fun i hi => absurd hi (by simp), by simp [printL, Lib.join_nil]⟩
  · simp [Value.cells] at hcs
    obtain ⟨rfl, rfl, rfl⟩ := hcs
    have hlm : len ≤ m := by rw [hmm]; split <;> omega
    have each : ∀ i, i < len → ∃ t : Tok, (W.cell? (x.add (i * 3)) = some (.int .i64 t.kind) ∧ W.cell? (x.add (i * 3 + 1)) = some (.int .i64 t.n) ∧ W.cell? (x.add (i * 3 + 2)) = some (.string ⟨t.text.toArray⟩)) ∧ (-9223372036854775808 ≤ t.n ∧ t.n ≤ 9223372036854775807) ∧ Rows.uptoBulk (D i) = t.text.length + 4 := by
      intro i hi
      obtain ⟨cs', h1, h2⟩ := hel i (by omega)
      rw [cells84] at h1
      obtain ⟨_, hlen, hcell⟩ := World.cells?_some h1
      obtain ⟨xs, k, hk, hxy, _, hxl, hff⟩ := DataW.trod_struct Tryd.underlying84 h2
      match xs, hxl, cs', hlen with
      | [y0, y1, y2], _, [v0, v1, v2], _ =>
        have g0 := hff 0 _ rfl
        have g1 := hff 1 _ rfl
        have g2 := hff 2 _ rfl
        simp [cells3, cells9] at g0 g1 g2
        have e0 := hcell 0 (by omega)
        have e1 := hcell 1 (by omega)
        have e2 := hcell 2 (by omega)
        rw [Deep.add_add] at e0 e1 e2
        obtain ⟨z0, q0, r0, w0⟩ := DataW.trod_int Tryd.underlying3 g0
        obtain ⟨z1, q1, r1, w1⟩ := DataW.trod_int Tryd.underlying3 g1
        obtain ⟨z2, q2, r2, w2⟩ := DataW.trod_string Tryd.underlying9 g2
        simp only [List.cons.injEq, and_true] at q0 q1 q2
        subst q0 q1 q2 r0 r1 r2
        simp only [Prod.mk.injEq] at hxy
        refine ⟨⟨z0, z1, z2.data.toList⟩, ⟨by simpa using e0, by simpa using e1, by simpa using e2⟩, bounds_i64 w1, ?_⟩
        rw [hxy.1]
        exact bulk_tok _ _ _
    obtain ⟨q, hq⟩ := Deep.choose_lt each
    have hdd : d = .slice ((List.range len).map D) ((List.range (m - len)).map fun j => D (len + j)) := by simpa using congrArg Prod.fst hx
    have hsum : sumT ((List.range len).map q) ≤ 1048576 := by
      rw [← bulk_map (D := D) (List.range len) (fun i hi => (hq i (List.mem_range.1 hi)).2.2)]
      rw [hdd] at hbulk
      simp only [Rows.uptoBulk] at hbulk
      omega
    have hcount : ∀ l : List Tok, l.length ≤ sumT l := by
      intro l
      induction l with
      | nil => simp [sumT]
      | cons t r ih => simp only [sumT, List.map_cons, List.sum_cons, List.length_cons] at ih ⊢; omega
    have hts : ((List.range len).map q).length = len := by simp
    have hle := hcount ((List.range len).map q)
    refine ⟨(List.range len).map q, ?_, by omega, fun i hi => ?_, ?_⟩
    · refine ⟨some x, cap, by rw [hts], by rw [hts]; omega, fun h0 => ?_⟩
      rw [hts] at h0
      obtain ⟨b, off, spot⟩ := x
      have hc := (hq 0 h0).1.1
      have hspot : spot = none := by simpa [Addr.add] using World.cell?_spot hc
      subst hspot
      have hadd : ∀ j, (⟨b, off, none⟩ : Addr).add j = ⟨b, off + j, none⟩ := fun j => by unfold Addr.add; split <;> simp_all
      have hlt : b < W.heap.size := by
        rw [hadd] at hc
        exact World.block_lt_of_cell? W _ hc
      refine ⟨b, off, rfl, hlt, fun i hi => ?_⟩
      rw [hts] at hi
      have h3 := (hq i hi).1
      rw [hadd, hadd, hadd] at h3
      simp only [List.getElem_map, List.getElem_range]
      exact h3
    · rw [hts] at hi
      simp only [List.getElem_map, List.getElem_range]
      exact (hq i hi).2.1
    · have := print_len ((List.range len).map q) (fun t ht => by
        simp only [List.mem_map, List.mem_range] at ht
        obtain ⟨i, hi, rfl⟩ := ht
        exact (hq i hi).2.1)
      omega

end Go.Proofs.YtajeijhmlkbjgaaDoor
