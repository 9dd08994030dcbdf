/- The program's own sim: copies of lists. -/
import Derived.Test.YtabepbaldadmgaaDoorSnC
import Derived.Deep.AppendSrc
namespace Go.Proofs.YtabepbaldadmgaaDoor
open Go.RowKit

def Sy.cells (s : Sy) : List Value := [.string ⟨s.name.toArray⟩, .int .i64 s.pos]
def scells (l : List Sy) : List Value := l.flatMap Sy.cells
theorem scells_len (l : List Sy) : (scells l).length = l.length * 2 := by
  induction l with
  | nil => rfl
  | cons x l ih => simp only [scells, List.flatMap_cons, List.length_append, List.length_cons] at ih ⊢; simp only [Sy.cells, List.length_cons, List.length_nil]; omega
theorem scells_at : ∀ (l : List Sy) (i : Nat) (h : i < l.length), (scells l)[i * 2]? = some (.string ⟨l[i].name.toArray⟩) ∧ (scells l)[i * 2 + 1]? = some (.int .i64 l[i].pos)
  | x :: l, 0, _ => ⟨rfl, rfl⟩
  | x :: l, i + 1, h => by
    have ih := scells_at l i (by simpa using h)
    have e : scells (x :: l) = .string ⟨x.name.toArray⟩ :: .int .i64 x.pos :: scells l := rfl
    rw [e, show (i + 1) * 2 = i * 2 + 1 + 1 by omega]
    exact ih
theorem scells_one (l : List Sy) : ∀ v ∈ scells l, v.oneCell' = true := by
  intro v hv
  simp only [scells, List.mem_flatMap, Sy.cells, List.mem_cons, List.not_mem_nil, or_false] at hv
  obtain ⟨t, _, rfl | rfl⟩ := hv <;> rfl
/-- Where the cells of a row lie. -/
def SrcOf (w : World) (ad : Option Addr) (n : Nat) (cs : List Value) : Prop := 0 < n → ∃ b o, ad = some ⟨b, o, none⟩ ∧ b < w.heap.size ∧ ∀ j v, cs[j]? = some v → w.cell? ⟨b, o + j, none⟩ = some v
theorem SrcOf.below {w w' : World} {B : Nat} {ad : Option Addr} {n : Nat} {cs : List Value} (h : SrcOf w ad n cs) (hb : Below B w w') (hB : w.heap.size ≤ B) : SrcOf w' ad n cs := fun h0 => by
  obtain ⟨b, o, rfl, hl, hc⟩ := h h0
  exact ⟨b, o, rfl, Nat.lt_of_lt_of_le hl hb.size, fun j v hj => by rw [hb.cell (by show b < B; omega)]; exact hc j v hj⟩

theorem OSyms.src {w : World} {v : Value} {l : List Sy} (h : OSyms w v l) : ∃ ad cap, v = .slice ad l.length cap ∧ SrcOf w ad l.length (scells l) := by
  obtain ⟨ad, cap, rfl, _, hc⟩ := h
  refine ⟨ad, cap, rfl, fun h0 => ?_⟩
  obtain ⟨b, o, rfl, hl, hcs⟩ := hc h0
  refine ⟨b, o, rfl, hl, fun j v hj => ?_⟩
  have hjl : j < (scells l).length := (List.getElem?_eq_some_iff.1 hj).1
  rw [scells_len] at hjl
  have hi : j / 2 < l.length := by omega
  have ha := scells_at l (j / 2) hi
  have hc := hcs (j / 2) hi
  have hr : j = j / 2 * 2 ∨ j = j / 2 * 2 + 1 := by omega
  rcases hr with hr | hr
  · rw [hr] at hj ⊢
    rw [ha.1] at hj
    rw [← hj]
    exact hc.1
  · rw [hr] at hj ⊢
    rw [ha.2] at hj
    rw [← hj]
    exact hc.2
theorem syms_of_src {w : World} {ad : Option Addr} {cap : Nat} {l : List Sy} (h : SrcOf w ad l.length (scells l)) (hm : l.length ≤ maxLen) (hc : l.length ≤ cap) : OSyms w (.slice ad l.length cap) l := by
  refine ⟨ad, cap, rfl, ⟨hm, hc⟩, fun h0 => ?_⟩
  obtain ⟨b, o, rfl, hl, hc⟩ := h h0
  exact ⟨b, o, rfl, hl, fun i hi => ⟨hc _ _ (scells_at l i hi).1, hc _ _ (scells_at l i hi).2⟩⟩

theorem run_copyN {t e : TypeId} {size : Nat} (hu : Tryd.prog.underlying t = some (.slice e)) (hs : (Tryd.prog.info? e).map (·.size) = some size) (w : World) (ty : TypeId) (g n dCap sCap : Nat) (a : Addr) (cur : Array Value) (cs : List Value)
    (hg : w.heap[g]? = some (.cells cur e (0, 0))) (hn : cs.length = n * size) (hcur : cur.size = n * size)
    (hsrc : ∀ j v, cs[j]? = some v → w.cell? (a.add j) = some v) (h1 : ∀ v ∈ cs, v.oneCell' = true) :
    (Builtin.copy_ #[t, t] ty #[.slice (some ⟨g, 0, none⟩) n dCap, .slice (some a) n sCap]).run Tryd.prog w = .ok (goInt n) (w.setRow g cs.toArray) := by
  have hl := run_loadCells_list (P := Tryd.prog) w a cs hsrc
  have hst := run_storeCells_at Tryd.prog g 0 e cs 0 cur w hg (by omega) h1
  cases hq : Tryd.prog.info? e with
  | none => simp [hq] at hs
  | some i =>
    have hi : i.size = size := by simpa [hq] using hs
    have e : cur.toList.take (0 + 0) ++ cs ++ cur.toList.drop (0 + 0 + cs.length) = cs := by
      rw [List.drop_eq_nil_of_le (by simp; omega)]; simp
    rw [e] at hst
    have hmin : Nat.min n n = n := by simp
    simp [Builtin.copy_, run_underlying hu, Builtin.lenOf, Builtin.firstCells, sizeOf, typeInfo, hq, hi, hmin, ← hn, hl, hst]
theorem run_copyN_none {t e : TypeId} {size : Nat} (hu : Tryd.prog.underlying t = some (.slice e)) (hs : (Tryd.prog.info? e).map (·.size) = some size) (w : World) (ty : TypeId) (dCap sCap : Nat) (d a : Option Addr) :
    (Builtin.copy_ #[t, t] ty #[.slice d 0 dCap, .slice a 0 sCap]).run Tryd.prog w = .ok (goInt 0) w := by
  cases hq : Tryd.prog.info? e with
  | none => simp [hq] at hs
  | some i =>
    have hl : ∀ (x : Addr), (loadCells x 0).run Tryd.prog w = .ok #[] w := fun x => by simpa using run_loadCells_list (P := Tryd.prog) w x [] (by simp)
    cases d <;> cases a <;> simp [Builtin.copy_, run_underlying hu, Builtin.lenOf, Builtin.firstCells, sizeOf, typeInfo, hq, storeCells, hl]
theorem copy_let {t e : TypeId} {size : Nat} (hu : Tryd.prog.underlying t = some (.slice e)) (hs : (Tryd.prog.info? e).map (·.size) = some size) (_hz : 0 < size) (Z : World) (H m tc : Nat) (td : Option Addr) (cs : List Value) (cur : Array Value) (hH : Z.heap[H]? = some (.cells cur e (0, 0))) (hn : cs.length = m * size) (hcur : cur.size = m * size)
    (hR : SrcOf Z td m cs) (h1 : ∀ v ∈ cs, v.oneCell' = true) :
    ∃ W4 : World, (∀ ty, (Builtin.copy_ #[t, t] ty #[.slice (some ⟨H, 0, none⟩) m m, .slice td m tc]).run Tryd.prog Z = .ok (.int .i64 (m : Int)) W4) ∧ W4.heap[H]? = some (.cells cs.toArray e (0, 0)) ∧ Below H Z W4 := by
  by_cases h0 : 0 < m
  · obtain ⟨b, o, rfl, _, hc⟩ := hR h0
    refine ⟨Z.setRow H cs.toArray, fun ty => ?_, setRow_heap Z H cur _ e (0, 0) hH, ?_⟩
    · exact run_copyN hu hs Z ty H m m tc ⟨b, o, none⟩ cur cs hH hn hcur (fun j v hj => by rw [addr_add]; exact hc j v hj) h1
    · exact below_setRow (Below.refl _ _) (Nat.le_refl _) _
  · have hm0 : m = 0 := by omega
    subst hm0
    refine ⟨Z, fun ty => run_copyN_none hu hs Z ty 0 tc _ _, ?_, Below.refl _ _⟩
    have e1 : cur = #[] := Array.eq_empty_of_size_eq_zero (by omega)
    have e2 : cs = [] := List.eq_nil_of_length_eq_zero (by omega)
    rw [hH, e1, e2]

theorem sizeB : (Tryd.prog.info? 5).map (·.size) = some 1 := by kernel_rfl
theorem sizeS : (Tryd.prog.info? 61).map (·.size) = some 2 := by kernel_rfl
theorem sizeI : (Tryd.prog.info? 3).map (·.size) = some 1 := by kernel_rfl
theorem infoB : (Tryd.prog.info? 5).map (fun i => (i.zero, i.size, i.bytes)) = some (some (.int .u8 0), 1, 1) := by kernel_rfl
theorem infoS : (Tryd.prog.info? 61).map (fun i => (i.zero, i.size, i.bytes)) = some (some (.agg #[.string ⟨#[]⟩, .int .i64 0]), 2, 24) := by kernel_rfl
theorem makeB (n : Nat) (hn : n * 1 ≤ 140737488355328) (w : World) : (Instr.makeSlice 23 (.int .i64 (n : Int)) (.int .i64 (n : Int))).run Tryd.prog w = .ok (.slice (some ⟨w.heap.size, 0, none⟩) n n) (w.alloc (.cells (madeCells #[.int .u8 0] (n * 1)) 5)) := by
  obtain ⟨i, hi, hz0, hz1, hz2⟩ := info_parts infoB
  have := run_make (P := Tryd.prog) w 23 5 i _ Tryd.underlying23 hi hz0 .i64 .i64 (n : Int) (n : Int) (by omega) (by omega) (by rw [hz2]; omega) (by omega)
  rw [hz1] at this
  exact this
theorem makeS (n : Nat) (hn : n * 24 ≤ 140737488355328) (w : World) : (Instr.makeSlice 24 (.int .i64 (n : Int)) (.int .i64 (n : Int))).run Tryd.prog w = .ok (.slice (some ⟨w.heap.size, 0, none⟩) n n) (w.alloc (.cells (madeCells #[.string ⟨#[]⟩, .int .i64 0] (n * 2)) 61)) := by
  obtain ⟨i, hi, hz0, hz1, hz2⟩ := info_parts infoS
  have := run_make (P := Tryd.prog) w 24 61 i _ Tryd.underlying24 hi hz0 .i64 .i64 (n : Int) (n : Int) (by omega) (by omega) (by rw [hz2]; omega) (by omega)
  rw [hz1] at this
  exact this
theorem makeI (n : Nat) (hn : n * 8 ≤ 140737488355328) (w : World) : (Instr.makeSlice 27 (.int .i64 (n : Int)) (.int .i64 (n : Int))).run Tryd.prog w = .ok (.slice (some ⟨w.heap.size, 0, none⟩) n n) (w.alloc (.cells (madeCells #[.int .i64 0] (n * 1)) 3)) := by
  obtain ⟨i, hi, hz0, hz1, hz2⟩ := info_parts infoI
  have := run_make (P := Tryd.prog) w 27 3 i _ Tryd.underlying27 hi hz0 .i64 .i64 (n : Int) (n : Int) (by omega) (by omega) (by rw [hz2]; omega) (by omega)
  rw [hz1] at this
  exact this
/-- A row of its own. -/
theorem src_of_block {w : World} {g n size : Nat} {e : TypeId} {cs : List Value} (h : w.heap[g]? = some (.cells cs.toArray e (0, 0))) (_ : cs.length = n * size) : SrcOf w (some ⟨g, 0, none⟩) n cs := fun _ => by
  refine ⟨g, 0, rfl, (Array.getElem?_eq_some_iff.1 h).1, fun j v hj => ?_⟩
  rw [Nat.zero_add]
  unfold World.cell?
  simp only [h]
  simpa using hj


theorem brd_src {w : World} {ba : Option Addr} {l : List UInt8} (h : BRd w ba l) : SrcOf w ba l.length (mcells l) := fun h0 => by
  obtain ⟨b, off, e, hl, hc⟩ := h h0
  refine ⟨b, off, e, hl, fun j v hj => ?_⟩
  have hj1 : j < l.length := by
    have := (List.getElem?_eq_some_iff.1 hj).1
    simpa [mcells] using this
  rw [hc j hj1, ← hj]
  simp [mcells, bsOf, hj1, List.getD]
theorem trd_src {w : World} {ta : Option Addr} {l : List Int} (h : TRd w ta l) : SrcOf w ta l.length (icells l) := fun h0 => by
  obtain ⟨b, off, e, hl, hc⟩ := h h0
  refine ⟨b, off, e, hl, fun j v hj => ?_⟩
  have hj1 : j < l.length := by
    have := (List.getElem?_eq_some_iff.1 hj).1
    simpa [icells] using this
  rw [hc j hj1, ← hj]
  simp [icells, hj1, List.getD]

set_option maxHeartbeats 1000000 in
theorem pownB (l : List UInt8) (ad : Option Addr) (cap : Nat) (w : World) (hv : BRd w ad l) (hn : l.length * 1 ≤ 140737488355328) :
    Calls Tryd.prog 28 #[.slice ad l.length cap] w fun e w' => e = .returned (.slice (some ⟨w.heap.size, 0, none⟩) l.length l.length) ∧ Below w.heap.size w w' ∧ w'.heap[w.heap.size]? = some (.cells (mcells l).toArray 5 (0, 0)) := by
  have hmk := makeB l.length hn
  have hB := oalloc w (.cells (madeCells #[.int .u8 0] (l.length * 1)) 5)
  obtain ⟨W4, hcp, hrow, hb4⟩ := copy_let Tryd.underlying23 sizeB (by decide) (w.alloc (.cells (madeCells #[.int .u8 0] (l.length * 1)) 5)) w.heap.size l.length cap ad (mcells l) _ (heap_alloc_new _ _) (by rw [mcells_len, Nat.mul_one]) (by rw [size_madeCells]) ((brd_src hv).below hB (Nat.le_refl _)) (mcells_one l)
  have HB := Lib.hid (hB.trans hb4)
  have HR := Lib.hid hrow
  clear hB hb4 hrow
  simp only [Nat.mul_one] at hmk hcp
  go_enter Tryd.func28, Tryd.ntmps28
  go_wp2
  go_ret
  exact ⟨rfl, HB.out, HR.out⟩

set_option maxHeartbeats 1000000 in
theorem pownI (l : List Int) (ad : Option Addr) (cap : Nat) (w : World) (hv : TRd w ad l) (hn : l.length * 8 ≤ 140737488355328) :
    Calls Tryd.prog 27 #[.slice ad l.length cap] w fun e w' => e = .returned (.slice (some ⟨w.heap.size, 0, none⟩) l.length l.length) ∧ Below w.heap.size w w' ∧ w'.heap[w.heap.size]? = some (.cells (icells l).toArray 3 (0, 0)) := by
  have hmk := makeI l.length hn
  have hB := oalloc w (.cells (madeCells #[.int .i64 0] (l.length * 1)) 3)
  obtain ⟨W4, hcp, hrow, hb4⟩ := copy_let Tryd.underlying27 sizeI (by decide) (w.alloc (.cells (madeCells #[.int .i64 0] (l.length * 1)) 3)) w.heap.size l.length cap ad (icells l) _ (heap_alloc_new _ _) (icells_len l) (by rw [size_madeCells]) ((trd_src hv).below hB (Nat.le_refl _)) (icells_one l)
  have HB := Lib.hid (hB.trans hb4)
  have HR := Lib.hid hrow
  clear hB hb4 hrow
  simp only [Nat.mul_one] at hmk hcp
  go_enter Tryd.func27, Tryd.ntmps27
  go_wp2
  go_ret
  exact ⟨rfl, HB.out, HR.out⟩

set_option maxHeartbeats 1000000 in
theorem pownS (l : List Sy) (ad : Option Addr) (cap : Nat) (w : World) (hv : SrcOf w ad l.length (scells l)) (hn : l.length * 24 ≤ 140737488355328) :
    Calls Tryd.prog 29 #[.slice ad l.length cap] w fun e w' => e = .returned (.slice (some ⟨w.heap.size, 0, none⟩) l.length l.length) ∧ Below w.heap.size w w' ∧ w'.heap[w.heap.size]? = some (.cells (scells l).toArray 61 (0, 0)) := by
  have hmk := makeS l.length hn
  have hB := oalloc w (.cells (madeCells #[.string ⟨#[]⟩, .int .i64 0] (l.length * 2)) 61)
  obtain ⟨W4, hcp, hrow, hb4⟩ := copy_let Tryd.underlying24 sizeS (by decide) (w.alloc (.cells (madeCells #[.string ⟨#[]⟩, .int .i64 0] (l.length * 2)) 61)) w.heap.size l.length cap ad (scells l) _ (heap_alloc_new _ _) (scells_len l) (by rw [size_madeCells]) (hv.below hB (Nat.le_refl _)) (scells_one l)
  have HB := Lib.hid (hB.trans hb4)
  have HR := Lib.hid hrow
  clear hB hb4 hrow
  go_enter Tryd.func29, Tryd.ntmps29
  go_wp2
  go_ret
  exact ⟨rfl, HB.out, HR.out⟩

end Go.Proofs.YtabepbaldadmgaaDoor
