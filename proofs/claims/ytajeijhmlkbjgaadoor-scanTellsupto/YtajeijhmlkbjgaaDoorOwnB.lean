/- The contract of scan's Own. -/
import Derived.Test.YtajeijhmlkbjgaaDoorOwnA
namespace Go.Proofs.YtajeijhmlkbjgaaDoor
open Go.RowKit

/-- A line that was copied: its place in the row g, its tokens in a block of their own, behind it. -/
def LnNew (w : World) (g i : Nat) (l : Ln) : Prop :=
  w.cell? ⟨g, i * 2, none⟩ = some (.int .i64 l.pos) ∧ ∃ h cap cur, g < h ∧ w.cell? ⟨g, i * 2 + 1, none⟩ = some (.slice (some ⟨h, 0, none⟩) l.toks.length cap) ∧ w.heap[h]? = some (.cells cur 84 (0, 0)) ∧ cur.toList = tcells l.toks

structure OwnPart (w : World) (g : Nat) (ls : List Ln) (k : Nat) : Prop where
  old : ∀ i (h : i < ls.length), i < k → LnNew w g i ls[i]
  new : ∀ i, i < ls.length → k ≤ i → w.cell? ⟨g, i * 2, none⟩ = some (.int .i64 0) ∧ w.cell? ⟨g, i * 2 + 1, none⟩ = some (.slice none 0 0)
  fr : ∀ j, w.frozen? ⟨g, j, none⟩ = false

theorem tcells_one (ts : List Tok) : ∀ v ∈ tcells ts, v.oneCell' = true := by
  intro v hv
  simp only [tcells, List.mem_flatMap, Tok.cells, List.mem_cons, List.not_mem_nil, or_false] at hv
  obtain ⟨t, _, rfl | rfl | rfl⟩ := hv <;> rfl

theorem tcells_src {Z : World} {b o : Nat} {ts : List Tok} (h : ∀ i (h : i < ts.length), Z.cell? ⟨b, o + i * 3, none⟩ = some (.int .i64 ts[i].kind) ∧ Z.cell? ⟨b, o + i * 3 + 1, none⟩ = some (.int .i64 ts[i].n) ∧ Z.cell? ⟨b, o + i * 3 + 2, none⟩ = some (.string ⟨ts[i].text.toArray⟩)) :
    ∀ j v, (tcells ts)[j]? = some v → Z.cell? ((⟨b, o, none⟩ : Addr).add j) = some v := by
  intro j v hj
  have hjl : j < (tcells ts).length := (List.getElem?_eq_some_iff.1 hj).1
  rw [tcells_length] at hjl
  have hi : j / 3 < ts.length := by omega
  have ha := tcells_at ts (j / 3) hi
  have hc := h (j / 3) hi
  have hadd : (⟨b, o, none⟩ : Addr).add j = ⟨b, o + j, none⟩ := by unfold Addr.add; split <;> simp_all
  rw [hadd]
  have hr : j = j / 3 * 3 ∨ j = j / 3 * 3 + 1 ∨ j = j / 3 * 3 + 2 := by omega
  rcases hr with hr | hr | hr
  · rw [hr] at hj ⊢
    rw [ha.1] at hj
    rw [← hj]
    exact hc.1
  · rw [hr] at hj ⊢
    rw [ha.2.1] at hj
    rw [← hj]
    exact hc.2.1
  · rw [hr] at hj ⊢
    rw [ha.2.2] at hj
    rw [← hj]
    exact hc.2.2

theorem copy_let (Z : World) (H m tc : Nat) (td : Option Addr) (toks : List Tok) (cur : Array Value) (hm : m = toks.length) (hH : Z.heap[H]? = some (.cells cur 84 (0, 0))) (hcur : cur.size = m * 3)
    (hR : 0 < m → ∃ b o, td = some ⟨b, o, none⟩ ∧ ∀ i (h : i < toks.length), Z.cell? ⟨b, o + i * 3, none⟩ = some (.int .i64 toks[i].kind) ∧ Z.cell? ⟨b, o + i * 3 + 1, none⟩ = some (.int .i64 toks[i].n) ∧ Z.cell? ⟨b, o + i * 3 + 2, none⟩ = some (.string ⟨toks[i].text.toArray⟩)) :
    ∃ W4 : World, (∀ ty, (Builtin.copy_ #[49, 49] ty #[.slice (some ⟨H, 0, none⟩) m m, .slice td m tc]).run Tryd.prog Z = .ok (.int .i64 (m : Int)) W4) ∧ (∃ cur', W4.heap[H]? = some (.cells cur' 84 (0, 0)) ∧ cur'.toList = tcells toks) ∧ Below H Z W4 := by
  by_cases h0 : 0 < m
  · obtain ⟨b, o, rfl, hc⟩ := hR h0
    refine ⟨Z.setRow H (tcells toks).toArray, fun ty => ?_, ⟨(tcells toks).toArray, setRow_heap Z H cur _ 84 (0, 0) hH, rfl⟩, ?_⟩
    · exact run_copy3 Z ty H m m tc ⟨b, o, none⟩ cur (tcells toks) hH (by rw [tcells_length, hm]) hcur (tcells_src hc) (tcells_one toks)
    · exact below_setRow (Below.refl _ _) (Nat.le_refl _) _
  · have hm0 : m = 0 := by omega
    subst hm0
    refine ⟨Z, fun ty => run_copy3_none Z ty 0 tc _ _, ⟨cur, hH, ?_⟩, Below.refl _ _⟩
    have e1 : cur = #[] := Array.eq_empty_of_size_eq_zero (by omega)
    have e2 : toks = [] := List.eq_nil_of_length_eq_zero hm.symm
    rw [e1, e2]
    rfl

theorem own_step {wr W4 : World} {g k m : Nat} {p : Int} {ls : List Ln} {x : Value} (h : OwnPart wr g ls k) (hk : k < ls.length) (hg : g < wr.heap.size) (hm : m = ls[k].toks.length) (hp : p = ls[k].pos) {o1 o2 : Obj}
    (hb : Below (wr.heap.size + 1) ((((wr.setCell ⟨g, k * 2, none⟩ (.int .i64 p)).setCell ⟨g, k * 2 + 1, none⟩ x).alloc o1).alloc o2).drew.drew W4) (hx : x = .slice (some ⟨wr.heap.size + 1, 0, none⟩) m m)
    (hrow : ∃ cur', W4.heap[wr.heap.size + 1]? = some (.cells cur' 84 (0, 0)) ∧ cur'.toList = tcells ls[k].toks) : OwnPart W4 g ls (k + 1) := by
  have hblk : ∀ j, j < wr.heap.size → W4.heap[j]? = ((wr.setCell ⟨g, k * 2, none⟩ (.int .i64 p)).setCell ⟨g, k * 2 + 1, none⟩ x).heap[j]? := by
    intro j hj
    rw [hb.block j (by omega)]
    show ((((wr.setCell ⟨g, k * 2, none⟩ (.int .i64 p)).setCell ⟨g, k * 2 + 1, none⟩ x).alloc o1).alloc o2).heap[j]? = _
    rw [Below.heap_alloc _ _ _ (by simp; omega), Below.heap_alloc _ _ _ (by simpa using hj)]
  have hcell : ∀ j, W4.cell? ⟨g, j, none⟩ = ((wr.setCell ⟨g, k * 2, none⟩ (.int .i64 p)).setCell ⟨g, k * 2 + 1, none⟩ x).cell? ⟨g, j, none⟩ := fun j => World.cell?_of_block (hblk g hg)
  have hother : ∀ j, j ≠ k * 2 → j ≠ k * 2 + 1 → W4.cell? ⟨g, j, none⟩ = wr.cell? ⟨g, j, none⟩ := by
    intro j h1 h2
    rw [hcell, World.cell?_setCell_other _ _ _ _ (by intro e; cases e; exact h2 rfl), World.cell?_setCell_other _ _ _ _ (by intro e; cases e; exact h1 rfl)]
  obtain ⟨n0, n1⟩ := h.new k hk (Nat.le_refl _)
  refine ⟨fun i hi hik => ?_, fun i hi hik => ?_, fun j => ?_⟩
  · by_cases e : i = k
    · subst e
      refine ⟨?_, wr.heap.size + 1, m, ?_⟩
      · rw [hcell, World.cell?_setCell_other _ _ _ _ (by intro e; have := congrArg Addr.off e; simp at this), World.cell?_setCell_same _ _ _ n0, hp]
      · obtain ⟨cur', hr, hc⟩ := hrow
        refine ⟨cur', by omega, ?_, hr, hc⟩
        have n1' : (wr.setCell ⟨g, i * 2, none⟩ (.int .i64 p)).cell? ⟨g, i * 2 + 1, none⟩ = some (.slice none 0 0) := by
          rw [World.cell?_setCell_other _ _ _ _ (by intro e; have := congrArg Addr.off e; simp at this)]; exact n1
        rw [hcell, World.cell?_setCell_same _ _ _ n1', hx, hm]
    · obtain ⟨c0, hh, cap, cur, hgh, c1, hrw, hcu⟩ := h.old i hi (by omega)
      have hhl : hh < wr.heap.size := (Array.getElem?_eq_some_iff.1 hrw).1
      refine ⟨?_, hh, cap, cur, hgh, ?_, ?_, hcu⟩
      · rw [hother _ (by omega) (by omega)]; exact c0
      · rw [hother _ (by omega) (by omega)]; exact c1
      · rw [hblk hh hhl, Below.heap_setCell _ _ _ _ (by show hh ≠ g; omega), Below.heap_setCell _ _ _ _ (by show hh ≠ g; omega)]
        exact hrw
  · rw [hother _ (by omega) (by omega), hother _ (by omega) (by omega)]
    exact h.new i hi (by omega)
  · rw [World.frozen?_of_block (hblk g hg), World.frozen?_setCell, World.frozen?_setCell]
    exact h.fr j

set_option maxHeartbeats 2000000 in
theorem own_any (v : Value) (ls : List Ln) (w : World) (hv : LReads w v ls) (hn : ls.length ≤ 8796093022208) (hT : ∀ i (h : i < ls.length), ls[i].toks.length ≤ 8796093022208) :
    Calls Tryd.prog 37 #[v] w fun e w' => e = .returned (.slice (some ⟨w.heap.size, 0, none⟩) ls.length ls.length) ∧ Hid (OwnPart w' w.heap.size ls ls.length) ∧ w.heap.size < w'.heap.size ∧ Below w.heap.size w w' := by
  obtain ⟨ad, cap, rfl, hm, hc⟩ := hv
  have hmk := make55 ls.length hn
  clear hm
  go_enter Tryd.func37, Tryd.ntmps37
  go_wp2
  go_loopw [11] (fun i wr => ∃ k : Nat, k ≤ ls.length ∧ i = .int .i64 k ∧ Below w.heap.size w wr ∧ w.heap.size < wr.heap.size ∧ Hid (OwnPart wr w.heap.size ls k)) (fun i _ => ls.length - (intOf i).toNat)
  case atStart =>
    refine ⟨0, Nat.zero_le _, rfl, (Below.refl _ _).alloc (Nat.le_refl _) _, by simp, ?_⟩
    have hb := heap_alloc_new w (.cells (madeCells zL (ls.length * 2)) 64)
    refine ⟨fun i h hi => by omega, fun i h _ => ?_, fun j => ?_⟩
    · have := madeL_at ls.length i h
      unfold World.cell?
      simp only [hb]
      exact ⟨this.1, this.2⟩
    · unfold World.frozen?
      simp only [hb]
      simp
  case round =>
    obtain ⟨k, hk, rfl, hB, hz, HX⟩ := hrel
    clear hmk
    by_cases hlt : k < ls.length
    · have hk1 : (k : Int) < ls.length := by omega
      obtain ⟨b1, o1, rfl, hl1, hc1⟩ := hc (by omega)
      obtain ⟨x0, tv, x1, htr⟩ := hc1 k hlt
      rw [← hB.cell (by exact hl1)] at x0 x1
      obtain ⟨n0, n1⟩ := HX.out.new k hlt (Nat.le_refl _)
      have f0 := HX.out.fr (k * 2)
      have f1 := HX.out.fr (k * 2 + 1)
      obtain ⟨td, tc, rfl, hrest⟩ := htr
      have HR : Hid (0 < ls[k].toks.length → ∃ b o, td = some ⟨b, o, none⟩ ∧ b < w.heap.size ∧ ∀ i (h : i < ls[k].toks.length), w.cell? ⟨b, o + i * 3, none⟩ = some (.int .i64 ls[k].toks[i].kind) ∧ w.cell? ⟨b, o + i * 3 + 1, none⟩ = some (.int .i64 ls[k].toks[i].n) ∧ w.cell? ⟨b, o + i * 3 + 2, none⟩ = some (.string ⟨ls[k].toks[i].text.toArray⟩)) := hrest.2
      have hmk3 := make49 ls[k].toks.length (hT k hlt)
      have HB : Hid (Below w.heap.size w wr) := hB
      have hne : b1 ≠ w.heap.size := by omega
      clear hc1 hc hB hrest
      obtain ⟨m, hm⟩ : ∃ m, m = ls[k].toks.length := ⟨_, rfl⟩
      rw [← hm] at hmk3 x1
      obtain ⟨p, hp⟩ : ∃ p, p = ls[k].pos := ⟨_, rfl⟩
      rw [← hp] at x0
      have HM : Hid (m = ls[k].toks.length ∧ p = ls[k].pos) := ⟨hm, hp⟩
      clear hm hp
      go_wp2
      go_region
      have hH : (((wr.setCell ⟨w.heap.size, k * 2, none⟩ (.int .i64 p)).setCell ⟨w.heap.size, k * 2 + 1, none⟩ (.slice (some ⟨wr.heap.size + 1, 0, none⟩) m m)).alloc (.cells #[.int .i64 p, .slice td m tc] 64)).heap.size = wr.heap.size + 1 := by simp
      have hbb : Below w.heap.size w (((wr.setCell ⟨w.heap.size, k * 2, none⟩ (.int .i64 p)).setCell ⟨w.heap.size, k * 2 + 1, none⟩ (.slice (some ⟨wr.heap.size + 1, 0, none⟩) m m)).alloc (.cells #[.int .i64 p, .slice td m tc] 64)) := ((HB.out.setCell (by exact Nat.le_refl _) _).setCell (by exact Nat.le_refl _) _).alloc (by simp; omega) _
      obtain ⟨W4, hcp, hrow4, hb4⟩ := copy_let ((((wr.setCell ⟨w.heap.size, k * 2, none⟩ (.int .i64 p)).setCell ⟨w.heap.size, k * 2 + 1, none⟩ (.slice (some ⟨wr.heap.size + 1, 0, none⟩) m m)).alloc (.cells #[.int .i64 p, .slice td m tc] 64)).alloc (.cells (madeCells zT (m * 3)) 84)).drew.drew (wr.heap.size + 1) m tc td ls[k].toks (madeCells zT (m * 3)) HM.out.1 (by have := heap_alloc_new (((wr.setCell ⟨w.heap.size, k * 2, none⟩ (.int .i64 p)).setCell ⟨w.heap.size, k * 2 + 1, none⟩ (.slice (some ⟨wr.heap.size + 1, 0, none⟩) m m)).alloc (.cells #[.int .i64 p, .slice td m tc] 64)) (.cells (madeCells zT (m * 3)) 84); rw [hH] at this; exact this) (by rw [size_madeCells]) (by
        intro h0
        obtain ⟨b, o, e, hb, hcell⟩ := HR.out (by rw [← HM.out.1]; exact h0)
        refine ⟨b, o, e, fun i hi => ?_⟩
        have hb2 := (hbb.alloc (by rw [hH]; omega) (.cells (madeCells zT (m * 3)) 84)).drew.drew
        rw [hb2.cell (by exact hb), hb2.cell (by exact hb), hb2.cell (by exact hb)]
        exact hcell i hi)
      clear hbb hH
      go_wp2
      go_region
      have HN : Hid (OwnPart W4 w.heap.size ls (k + 1)) := own_step HX.out hlt hz HM.out.1 HM.out.2 hb4 rfl hrow4
      have hz4 : w.heap.size < W4.heap.size := by have := hb4.size; simp at this; omega
      have HB4 : Hid (Below w.heap.size w W4) := ((((((HB.out.setCell (by exact Nat.le_refl _) _).setCell (by exact Nat.le_refl _) _).alloc (by simp; omega) _).alloc (by simp; omega) _).drew).drew).trans (hb4.mono (by omega))
      clear hb4 hrow4 hcp HX HR
      go_wp2
      exact ⟨⟨k + 1, by omega, by go_num, HB4.out, hz4, HN.out⟩, by simp [intOf]; omega⟩
    · have hk1 : ¬ (k : Int) < ls.length := by omega
      have hke : k = ls.length := by omega
      subst hke
      go_wp2
      go_ret
      exact ⟨rfl, HX, hz, hB⟩

end Go.Proofs.YtajeijhmlkbjgaaDoor
