/- Macro: Read. Macro: the contract of Read. -/
import Derived.Test.YtagkmgdjkailkaaGreatDoorPut29
namespace Go.Proofs.YtagkmgdjkailkaaGreatDoor
open Go.RowKit

theorem makeL (n : Nat) (h : n ≤ 100000) (w : World) : (Instr.makeSlice 50 (.int .i64 (n : Int)) (.int .i64 (n : Int))).run Tryz.prog w = .ok (.slice (some ⟨w.heap.size, 0, none⟩) n n) (w.alloc (.cells (madeCells #[.slice none 0 0, .int .i64 0] (n * 2)) 83)) := by
  obtain ⟨i, hi, hz0, hz1, hz2⟩ := info_parts infoLn
  have := run_make (P := Tryz.prog) (w := w) 50 83 i _ Tryz.underlying50 hi hz0 .i64 .i64 n n (by omega) (Int.le_refl _) (by rw [hz2]; omega) (by omega)
  rw [hz1] at this
  have e : (Value.agg #[.slice none 0 0, .int .i64 0]).cells = #[.slice none 0 0, .int .i64 0] := rfl
  rw [e] at this
  simpa using this

/-- A row of lines: each one's text and number. -/
def RowL (W : World) (g n : Nat) (f : Nat → Value × Int) : Prop := ∃ cs : Array Value, W.heap[g]? = some (.cells cs 83 (0, 0)) ∧ cs.size = n * 2 ∧ ∀ i, i < n → cs[i * 2]? = some (f i).1 ∧ cs[i * 2 + 1]? = some (.int .i64 (f i).2)

theorem RowL.made (w : World) (n : Nat) : RowL (w.alloc (.cells (madeCells #[.slice none 0 0, .int .i64 0] (n * 2)) 83)) w.heap.size n fun _ => (.slice none 0 0, 0) := by
  refine ⟨_, new_at _ _ rfl, size_madeCells _ _, fun i hi => ⟨?_, ?_⟩⟩
  · rw [madeCells, Array.getElem?_map, Array.getElem?_range, if_pos (by omega)]
    simp
  · rw [madeCells, Array.getElem?_map, Array.getElem?_range, if_pos (by omega)]
    simp [Nat.add_mod]
theorem RowL.cell0 {W : World} {g n : Nat} {f : Nat → Value × Int} (h : RowL W g n f) {i : Nat} (hi : i < n) : W.cell? ⟨g, i * 2, none⟩ = some (f i).1 := by
  obtain ⟨cs, hb, _, hc⟩ := h
  exact blk_cell hb (hc i hi).1
theorem RowL.cell1 {W : World} {g n : Nat} {f : Nat → Value × Int} (h : RowL W g n f) {i : Nat} (hi : i < n) : W.cell? ⟨g, i * 2 + 1, none⟩ = some (.int .i64 (f i).2) := by
  obtain ⟨cs, hb, _, hc⟩ := h
  exact blk_cell hb (hc i hi).2
theorem RowL.froz {W : World} {g n : Nat} {f : Nat → Value × Int} (h : RowL W g n f) (i : Nat) : W.frozen? ⟨g, i, none⟩ = false := by
  obtain ⟨cs, hb, _, hc⟩ := h
  exact blk_froz hb
theorem RowL.lt {W : World} {g n : Nat} {f : Nat → Value × Int} (h : RowL W g n f) : g < W.heap.size := by
  obtain ⟨cs, hb, _, hc⟩ := h
  exact blk_lt hb
theorem RowL.keep {W W' : World} {g n : Nat} {f : Nat → Value × Int} (h : RowL W g n f) (hb : W'.heap[g]? = W.heap[g]?) : RowL W' g n f := by
  obtain ⟨cs, h1, h2⟩ := h
  exact ⟨cs, by rw [hb]; exact h1, h2⟩
theorem RowL.set0 {W : World} {g n : Nat} {f : Nat → Value × Int} (h : RowL W g n f) {k : Nat} (hk : k < n) (v : Value) : RowL (W.setCell ⟨g, k * 2, none⟩ v) g n fun i => if i = k then (v, (f i).2) else f i := by
  obtain ⟨cs, h1, h2, h3⟩ := h
  refine ⟨_, blk_set h1, by simpa using h2, fun i hi => ?_⟩
  obtain ⟨a, b⟩ := h3 i hi
  dsimp only
  by_cases e : i = k
  · subst e
    rw [if_pos rfl]
    refine ⟨?_, ?_⟩
    · rw [Array.getElem?_setIfInBounds_self_of_lt (by omega)]
    · rw [Array.getElem?_setIfInBounds_ne (by omega)]; exact b
  · rw [if_neg e, Array.getElem?_setIfInBounds_ne (by omega), Array.getElem?_setIfInBounds_ne (by omega)]
    exact ⟨a, b⟩
theorem RowL.set1 {W : World} {g n : Nat} {f : Nat → Value × Int} (h : RowL W g n f) {k : Nat} (hk : k < n) (p : Int) : RowL (W.setCell ⟨g, k * 2 + 1, none⟩ (.int .i64 p)) g n fun i => if i = k then ((f i).1, p) else f i := by
  obtain ⟨cs, h1, h2, h3⟩ := h
  refine ⟨_, blk_set h1, by simpa using h2, fun i hi => ?_⟩
  obtain ⟨a, b⟩ := h3 i hi
  dsimp only
  by_cases e : i = k
  · subst e
    rw [if_pos rfl]
    refine ⟨?_, ?_⟩
    · rw [Array.getElem?_setIfInBounds_ne (by omega)]; exact a
    · rw [Array.getElem?_setIfInBounds_self_of_lt (by omega)]
  · rw [if_neg e, Array.getElem?_setIfInBounds_ne (by omega), Array.getElem?_setIfInBounds_ne (by omega)]
    exact ⟨a, b⟩

/-- A line's tokens, as a text has them. -/
def tkOf (t : Sc.Tok) : Tk := ⟨t.kind, t.n, ⟨t.text.toArray⟩⟩
def ptCs (ts : List Sc.Tok) : List Value := ts.flatMap fun t => [.int .i64 t.kind, .int .i64 t.n, .string ⟨t.text.toArray⟩, .pointer none]
theorem infoPt : (Tryz.prog.info? 95).map (fun i => (i.zero, i.size, i.bytes)) = some (some (.agg #[.int .i64 0, .int .i64 0, .string ⟨#[]⟩, .pointer none]), 4, 40) := by kernel_rfl
theorem ptCs_at : ∀ (ts : List Sc.Tok) (i : Nat) (h : i < ts.length), (ptCs ts)[i * 4]? = some (.int .i64 ts[i].kind) ∧ (ptCs ts)[i * 4 + 1]? = some (.int .i64 ts[i].n) ∧ (ptCs ts)[i * 4 + 2]? = some (.string ⟨ts[i].text.toArray⟩) ∧ (ptCs ts)[i * 4 + 3]? = some (.pointer none)
  | [], i, h => by simp at h
  | t :: r, 0, h => by simp [ptCs]
  | t :: r, i + 1, h => by
    have ih := ptCs_at r i (by simpa using h)
    have e : ptCs (t :: r) = [.int .i64 t.kind, .int .i64 t.n, .string ⟨t.text.toArray⟩, .pointer none] ++ ptCs r := by simp [ptCs]
    rw [e, show (i + 1) * 4 = 4 + i * 4 by omega]
    simp only [List.getElem_cons_succ]
    refine ⟨?_, ?_, ?_, ?_⟩
    · rw [List.getElem?_append_right (by simp)]; simpa using ih.1
    · rw [List.getElem?_append_right (by simp; omega)]; simpa [show 4 + i * 4 + 1 - 4 = i * 4 + 1 by omega] using ih.2.1
    · rw [List.getElem?_append_right (by simp; omega)]; simpa [show 4 + i * 4 + 2 - 4 = i * 4 + 2 by omega] using ih.2.2.1
    · rw [List.getElem?_append_right (by simp; omega)]; simpa [show 4 + i * 4 + 3 - 4 = i * 4 + 3 by omega] using ih.2.2.2
/-- A row of parts reads as a text. -/
theorem preads_of {W : World} {base : Nat} {v : Value} {ts : List Sc.Tok} (h : W.ownsRow base 95 4 v ts.length (ptCs ts)) : PReads W v (ts.map tkOf) := by
  rcases id h.2 with ⟨hv, h0⟩ | ⟨g, cap, cur, rfl, hg, hgg, hle, hm, rest⟩
  · have : ts = [] := List.eq_nil_of_length_eq_zero h0
    subst this hv
    exact PReads.nil W
  · refine ⟨some ⟨g, 0, none⟩, cap, by simp, by simpa using hle, hm, fun _ => ⟨g, 0, rfl, blk_lt hgg, fun i hi => ?_⟩⟩
    simp only [List.length_map] at hi
    obtain ⟨a, b, c, d⟩ := ptCs_at ts i hi
    have hadd : ∀ j, (⟨g, 0, none⟩ : Addr).add j = ⟨g, 0 + j, none⟩ := fun j => by unfold Addr.add; split <;> simp_all
    have k0 := h.cells rfl _ _ a
    have k1 := h.cells rfl _ _ b
    have k2 := h.cells rfl _ _ c
    have k3 := h.cells rfl _ _ d
    rw [hadd] at k0 k1 k2 k3
    simp only [List.getElem_map, tkOf]
    exact ⟨k0, k1, k2, k3⟩
theorem PReads.fr {w w' : World} {g B : Nat} {v : Value} {ts : List Tk} (h : PReads w v ts) (hv : v.ownBlock ≠ some g) (hf : Fr g B w w') (hB : w.heap.size ≤ B) : PReads w' v ts := by
  obtain ⟨ad, cap, rfl, hc, hm, h⟩ := h
  refine ⟨ad, cap, rfl, hc, hm, fun h0 => ?_⟩
  obtain ⟨b, o, rfl, hlt, hcell⟩ := h h0
  refine ⟨b, o, rfl, Nat.lt_of_lt_of_le hlt hf.size, fun i hi => ?_⟩
  have hne : b ≠ g := fun e => hv (by simp [Value.ownBlock, e])
  have hbk := hf.block b (by omega) hne
  have hc : ∀ j, w'.cell? ⟨b, j, none⟩ = w.cell? ⟨b, j, none⟩ := fun j => by simp only [World.cell?, hbk]
  rw [hc, hc, hc, hc]
  exact hcell i hi

/-- Lines that a slice reads as, with their tokens. -/
def LIn (w : World) (v : Value) (ls : List Sc.Ln) : Prop :=
  ∃ ad cap, v = .slice ad ls.length cap ∧ (0 < ls.length → ∃ b o, ad = some ⟨b, o, none⟩ ∧ b < w.heap.size ∧ ∀ i (h : i < ls.length), ∃ tv, w.cell? ⟨b, o + i * 2, none⟩ = some (.int .i64 ls[i].pos) ∧ w.cell? ⟨b, o + i * 2 + 1, none⟩ = some tv ∧ Sc.TReads w tv ls[i].toks)

end Go.Proofs.YtagkmgdjkailkaaGreatDoor

namespace Go.Proofs.YtagkmgdjkailkaaGreatDoor
open Go.RowKit

theorem ptCs_app (a : List Sc.Tok) (t : Sc.Tok) : ptCs (a ++ [t]) = ptCs a ++ [.int .i64 t.kind, .int .i64 t.n, .string ⟨t.text.toArray⟩, .pointer none] := by simp [ptCs]

/-- What Read has made of the first k lines. -/
def RdAt (w W : World) (n : Nat) (ls : List Sc.Ln) (k : Nat) (f : Nat → Value × Int) : Prop :=
  RowL W w.heap.size n f ∧ (∀ i (h : i < ls.length), i < k → (f i).2 = ls[i].pos ∧ PReads W (f i).1 (ls[i].toks.map tkOf) ∧ (∀ j, (f i).1.ownBlock = some j → w.heap.size < j)) ∧ (∀ i, k ≤ i → f i = (.slice none 0 0, 0))

theorem LIn.row {w W : World} {ad : Option Addr} {cap : Nat} {ls : List Sc.Ln} (h : LIn w (.slice ad ls.length cap) ls) (hb : Below w.heap.size w W) {k : Nat} (hk : k < ls.length) :
    ∃ b o tv, ad = some ⟨b, o, none⟩ ∧ b < w.heap.size ∧ W.cell? ⟨b, o + k * 2, none⟩ = some (.int .i64 ls[k].pos) ∧ W.cell? ⟨b, o + k * 2 + 1, none⟩ = some tv ∧ Sc.TReads w tv ls[k].toks := by
  obtain ⟨ad', cap', e, h⟩ := h
  injection e with e1 _ e3
  subst e1 e3
  obtain ⟨b, o, rfl, hlt, hc⟩ := h (by omega)
  obtain ⟨tv, h1, h2, h3⟩ := hc k hk
  exact ⟨b, o, tv, rfl, hlt, by rw [hb.cell (by exact hlt)]; exact h1, by rw [hb.cell (by exact hlt)]; exact h2, h3⟩

set_option maxHeartbeats 8000000 in
set_option maxRecDepth 100000 in
theorem read_any (v : Value) (ls : List Sc.Ln) (w : World) (h : LIn w v ls) (hn : ls.length ≤ 100000) (hts : ∀ l, l ∈ ls → l.toks.length ≤ 100000) :
    Calls Tryz.prog 19 #[v] w fun r w' => r = .returned (.slice (some ⟨w.heap.size, 0, none⟩) ls.length ls.length) ∧ (∃ f, RdAt w w' ls.length ls ls.length f) ∧ Below w.heap.size w w' := by
  obtain ⟨ad, cap, rfl, _⟩ := id h
  have HI := Lib.hid h
  have HTS := Lib.hid hts
  clear h hts
  have hm := fun W => makeL ls.length hn W
  have HM := Lib.hid (RowL.made w ls.length)
  go_enter Tryz.func19, Tryz.ntmps19
  go_wp2_with fail
  go_loopw [13] (fun i wr => ∃ k : Nat, k ≤ ls.length ∧ i = .int .i64 k ∧ Hid (∃ f, RdAt w wr ls.length ls k f) ∧ Hid (Below w.heap.size w wr)) (fun i _ => ls.length - (intOf i).toNat)
  case atStart => exact ⟨0, Nat.zero_le _, rfl, ⟨_, HM.out, fun i h hk => absurd hk (by omega), fun i _ => rfl⟩, oalloc _ _⟩
  case round =>
    obtain ⟨k, hk, rfl, HR, HB⟩ := hrel
    clear HM
    by_cases hlt : k < ls.length
    · have hk' : (k : Int) < ls.length := by omega
      obtain ⟨f, hf⟩ := HR.out
      obtain ⟨b, o, tv, rfl, hbl, q0, q1, q2⟩ := HI.out.row HB.out hlt
      obtain ⟨P, hP⟩ : ∃ P, ls[k].pos = P := ⟨_, rfl⟩
      obtain ⟨TS, hTS⟩ : ∃ TS, ls[k].toks = TS := ⟨_, rfl⟩
      rw [hP] at q0
      rw [hTS] at q2
      obtain ⟨td, tc, rfl, hml, _⟩ := id q2
      have hx1 := hf.1.cell1 hlt
      have hfz := hf.1.froz (k * 2 + 1)
      have hgl := hf.1.lt
      have hz := HB.out.size
      have hb2 : b < wr.heap.size := by omega
      have hA : TS.length ≤ 100000 := by rw [← hTS]; exact HTS.out _ (List.getElem_mem hlt)
      go_wp2_with fail
      have h1 : RowL ((wr.setCell ⟨w.heap.size, k * 2 + 1, none⟩ (.int .i64 P)).alloc (.cells #[.int .i64 P, .slice td TS.length tc] 65)) w.heap.size ls.length fun i => if i = k then (.slice none 0 0, P) else f i := by
        have := (hf.1.set1 hlt P).keep (W' := (wr.setCell ⟨w.heap.size, k * 2 + 1, none⟩ (.int .i64 P)).alloc (.cells #[.int .i64 P, .slice td TS.length tc] 65)) (old2 _ _ (by simpa using hgl))
        obtain ⟨cs, a1, a2, a3⟩ := this
        refine ⟨cs, a1, a2, fun i hi => ?_⟩
        have := a3 i hi
        by_cases e : i = k
        · subst e
          simp only [if_true] at this ⊢
          rw [hf.2.2 i (Nat.le_refl _)] at this
          exact this
        · simp only [if_neg e] at this ⊢
          exact this
      have h2 : Below w.heap.size w ((wr.setCell ⟨w.heap.size, k * 2 + 1, none⟩ (.int .i64 P)).alloc (.cells #[.int .i64 P, .slice td TS.length tc] 65)) := (HB.out.setCell (Nat.le_refl _) _).alloc (by simpa using hz) _
      have h3 : ∀ i (h : i < ls.length), i < k → (f i).2 = ls[i].pos ∧ PReads ((wr.setCell ⟨w.heap.size, k * 2 + 1, none⟩ (.int .i64 P)).alloc (.cells #[.int .i64 P, .slice td TS.length tc] 65)) (f i).1 (ls[i].toks.map tkOf) ∧ (∀ j, (f i).1.ownBlock = some j → w.heap.size < j) := fun i h hi => by
        obtain ⟨a1, a2, a3⟩ := hf.2.1 i h hi
        refine ⟨a1, ?_, a3⟩
        have hne : (f i).1.ownBlock ≠ some w.heap.size := fun e => by have := a3 _ e; omega
        exact (a2.fr (B := wr.heap.size) hne (Fr.of (gset wr w.heap.size (k * 2 + 1) _) (Nat.le_refl _)) (Nat.le_refl _)).below (oalloc _ _) (Nat.le_refl _)
      have h4 : ∀ i, k + 1 ≤ i → f i = (.slice none 0 0, 0) := fun i hi => hf.2.2 i (by omega)
      generalize (wr.setCell ⟨w.heap.size, k * 2 + 1, none⟩ (.int .i64 P)).alloc (.cells #[.int .i64 P, .slice td TS.length tc] 65) = W1 at *
      have H1 := Lib.hid h1
      have H2 := Lib.hid h2
      have H3 := Lib.hid h3
      have H4 := Lib.hid h4
      have HQ := Lib.hid q2
      clear h1 h2 h3 h4 q2 hf HR HB q0 q1 hx1 hfz hgl hb2 hz
      go_loopw [27] (fun i wr => ∃ (m : Nat) (tv : Value), m ≤ TS.length ∧ i = .int .i64 m ∧ Hid (wr.ownsRow W1.heap.size 95 4 tv m (ptCs (TS.take m))) ∧ Hid (RowL wr w.heap.size ls.length fun i => if i = k then (tv, P) else f i) ∧ Hid (Fr w.heap.size W1.heap.size W1 wr)) (fun i _ => TS.length - (intOf i).toNat)
      case atStart => exact ⟨0, .slice none 0 0, Nat.zero_le _, rfl, Lib.hid (by simpa [ptCs] using World.ownsRow_nil W1 _ _ _), H1, Fr.refl _ _ _⟩
      case round =>
        obtain ⟨m, tv, hm2, rfl, HO, HR, HF⟩ := hrel
        by_cases hlt2 : m < TS.length
        · have hk2 : (m : Int) < TS.length := by omega
          obtain ⟨td', tc', e', _, hc'⟩ := id HQ.out
          injection e' with e1 _ e3
          subst e1 e3
          obtain ⟨b2, o2, rfl, hbl2, hcell⟩ := hc' (by omega)
          obtain ⟨t0, t1, t2⟩ := hcell m hlt2
          have hbk : wr.heap[b2]? = w.heap[b2]? := (HF.out.block b2 (Nat.lt_of_lt_of_le hbl2 H2.out.size) (by omega)).trans (H2.out.block b2 hbl2)
          have hcw : ∀ j, wr.cell? ⟨b2, j, none⟩ = w.cell? ⟨b2, j, none⟩ := fun j => by simp only [World.cell?, hbk]
          rw [← hcw] at t0 t1 t2
          have hzw : w.heap.size ≤ wr.heap.size := Nat.le_trans H2.out.size HF.out.size
          have hb3 : b2 < wr.heap.size := by omega
          have hgl := HR.out.lt
          obtain ⟨la, lc, rfl⟩ := row_shape HO.out
          have x0 : wr.cell? ⟨w.heap.size, k * 2, none⟩ = some (.slice la m lc) := by
            have := HR.out.cell0 hlt
            simpa using this
          have HT : Hid (ptCs (TS.take (m + 1)) = ptCs (TS.take m) ++ [.int .i64 TS[m].kind, .int .i64 TS[m].n, .string ⟨TS[m].text.toArray⟩, .pointer none]) := by
            unfold Hid
            rw [List.take_succ_eq_append_getElem hlt2, ptCs_app]
          have hrow : (((wr.alloc (.cells #[.int .i64 TS[m].kind, .int .i64 TS[m].n, .string ⟨TS[m].text.toArray⟩] 89)).alloc (.cells #[.int .i64 TS[m].kind, .int .i64 TS[m].n, .string ⟨TS[m].text.toArray⟩, .pointer none] 95)).drew).ownsRow W1.heap.size 95 4 (.slice la m lc) m (ptCs (TS.take m)) := (HO.out.alloc _).alloc _
          obtain ⟨v', w', happ, hr', hgr⟩ := app1 81 95 _ 4 40 Tryz.underlying81 infoPt rfl (by decide) (by decide) hrow (by have := HF.out.size; go_size) [.int .i64 TS[m].kind, .int .i64 TS[m].n, .string ⟨TS[m].text.toArray⟩, .pointer none] rfl (wr.heap.size + 1) (new_at _ _ (by simp)) (by intro u hu; simp at hu; rcases hu with rfl | rfl | rfl | rfl <;> rfl) (by omega)
          obtain ⟨la', lc', rfl⟩ := row_shape hr'
          have hbk2 : w'.heap[w.heap.size]? = wr.heap[w.heap.size]? := by
            obtain ⟨cs, a1, _⟩ := HR.out
            have a2 : (((wr.alloc (.cells #[.int .i64 TS[m].kind, .int .i64 TS[m].n, .string ⟨TS[m].text.toArray⟩] 89)).alloc (.cells #[.int .i64 TS[m].kind, .int .i64 TS[m].n, .string ⟨TS[m].text.toArray⟩, .pointer none] 95)).drew).heap[w.heap.size]? = wr.heap[w.heap.size]? := by
              show (World.alloc _ _).heap[w.heap.size]? = _
              rw [old2 _ _ (by go_size), old2 _ _ hgl]
            rw [hgr.block _ (by go_size) (row_box hrow (a2.trans a1) (by decide))]
            exact a2
          have hRL := HR.out.keep hbk2
          have d0 : w'.cell? ⟨w.heap.size, k * 2, none⟩ = some (.slice la m lc) := by simpa using hRL.cell0 hlt
          have d1 : w'.frozen? ⟨w.heap.size, k * 2, none⟩ = false := hRL.froz _
          have hgl' := hRL.lt
          have HR2 : Hid (RowL (w'.setCell ⟨w.heap.size, k * 2, none⟩ (.slice la' (m + 1) lc')) w.heap.size ls.length fun i => if i = k then (.slice la' (m + 1) lc', P) else f i) := by
            obtain ⟨cs, a1, a2, a3⟩ := hRL.set0 hlt (.slice la' (m + 1) lc')
            refine ⟨cs, a1, a2, fun i hi => ?_⟩
            have := a3 i hi
            by_cases e : i = k
            · subst e
              simpa using this
            · simp only [if_neg e] at this ⊢
              exact this
          have HO2 : Hid ((w'.setCell ⟨w.heap.size, k * 2, none⟩ (.slice la' (m + 1) lc')).ownsRow W1.heap.size 95 4 (.slice la' (m + 1) lc') (m + 1) (ptCs (TS.take (m + 1)))) := by
            unfold Hid
            rw [HT.out]
            exact row_set hr' H1.out.lt
          have HF2 : Hid (Fr w.heap.size W1.heap.size W1 (w'.setCell ⟨w.heap.size, k * 2, none⟩ (.slice la' (m + 1) lc'))) := by
            have hs : W1.heap.size ≤ wr.heap.size := HF.out.size
            refine HF.out.trans (Fr.trans (b := w') ?_ (Fr.of (gset _ _ _ _) (Nat.le_trans hs (Nat.le_trans (by go_size) hgr.size))))
            refine Fr.trans (Fr.below ?_) (Fr.grown hgr (by go_size) fun q hq => .inr (hrow.lt q hq).1)
            refine Below.drew ?_
            exact ((Below.refl _ _).alloc hs _).alloc (by go_size) _
          clear hrow hr' hgr hRL hbk2 HO HR HF HT
          go_wp2_with fail
          go_region_law (refine step_app1 rfl _ _ _ _ rfl _ _ rfl rfl happ ?_)
          all_goals
            go_wp2
            exact ⟨⟨m + 1, .slice la' (m + 1) lc', by omega, by go_num, HO2, HR2, HF2⟩, by simp [intOf]; omega⟩
        · obtain rfl : m = TS.length := by omega
          have hk2 : ¬ ((TS.length : Nat) : Int) < TS.length := by omega
          go_wp2
          refine ⟨⟨k + 1, by omega, by go_num, ⟨_, HR.out, fun i h hi => ?_, fun i hi => ?_⟩, ?_⟩, by simp [intOf]; omega⟩
          · by_cases e : i = k
            · subst e
              rw [if_pos rfl]
              refine ⟨hP.symm, ?_, fun j hj => ?_⟩
              · have := HO.out
                rw [List.take_length] at this
                rw [hTS]
                exact preads_of this
              · have := (HO.out.lt j hj).1
                have := H2.out.size
                have := H1.out.lt
                omega
            · simp only [if_neg e]
              obtain ⟨a1, a2, a3⟩ := H3.out i h (by omega)
              exact ⟨a1, a2.fr (fun e => by have := a3 _ e; omega) HF.out (Nat.le_refl _), a3⟩
          · simp only [if_neg (show ¬ i = k by omega)]
            exact H4.out i hi
          · exact ⟨HF.out.os.trans H2.out.os, HF.out.tape.trans H2.out.tape, HF.out.output.trans H2.out.output, Nat.le_trans H2.out.size HF.out.size, fun i hi => (HF.out.block i (Nat.lt_of_lt_of_le hi H2.out.size) (by omega)).trans (H2.out.block i hi)⟩
    · have e0 : k = ls.length := by omega
      have hk' : ¬ (k : Int) < ls.length := by omega
      go_wp2
      go_ret
      subst e0
      exact ⟨rfl, HR.out, HB.out⟩

end Go.Proofs.YtagkmgdjkailkaaGreatDoor
