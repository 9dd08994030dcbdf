/- The contracts of the program's own copies of lists: own of bytes, of syms, of relocs. -/
import Derived.Test.YtobdcnpifbnjaacOcV
import Derived.Deep.AppendSrc
namespace Go.Proofs.Ytobdcnpifbnjaac
open Go.RowKit

/-! Rows of cells that lists are in memory. -/
def bcells (l : List UInt8) : List Value := l.map fun c => .int .u8 (c.toNat : Int)
def Sy.cells (s : Sy) : List Value := [.string ⟨s.name.toArray⟩, .int .i64 s.pos]
def Re.cells (r : Re) : List Value := [.int .i64 r.pos, .int .i64 r.size, .string ⟨r.name.toArray⟩, .int .i64 r.add]
def scells (l : List Sy) : List Value := l.flatMap Sy.cells
def rcells (l : List Re) : List Value := l.flatMap Re.cells

theorem bcells_len (l : List UInt8) : (bcells l).length = l.length * 1 := by simp [bcells]
theorem scells_len (l : List Sy) : (scells l).length = l.length * 2 := by
  induction l with
  | nil => rfl
  | cons x l ih => simp only [scells, List.flatMap_cons, List.length_append, List.length_cons] at ih ⊢; simp only [Sy.cells, List.length_cons, List.length_nil]; omega
theorem rcells_len (l : List Re) : (rcells l).length = l.length * 4 := by
  induction l with
  | nil => rfl
  | cons x l ih => simp only [rcells, List.flatMap_cons, List.length_append, List.length_cons] at ih ⊢; simp only [Re.cells, List.length_cons, List.length_nil]; omega
theorem scells_at : ∀ (l : List Sy) (i : Nat) (h : i < l.length), (scells l)[i * 2]? = some (.string ⟨l[i].name.toArray⟩) ∧ (scells l)[i * 2 + 1]? = some (.int .i64 l[i].pos)
  | x :: l, 0, _ => ⟨rfl, rfl⟩
  | x :: l, i + 1, h => by
    have ih := scells_at l i (by simpa using h)
    have e : scells (x :: l) = .string ⟨x.name.toArray⟩ :: .int .i64 x.pos :: scells l := rfl
    rw [e, show (i + 1) * 2 = i * 2 + 1 + 1 by omega]
    exact ih
theorem rcells_at : ∀ (l : List Re) (i : Nat) (h : i < l.length), (rcells l)[i * 4]? = some (.int .i64 l[i].pos) ∧ (rcells l)[i * 4 + 1]? = some (.int .i64 l[i].size) ∧ (rcells l)[i * 4 + 2]? = some (.string ⟨l[i].name.toArray⟩) ∧ (rcells l)[i * 4 + 3]? = some (.int .i64 l[i].add)
  | x :: l, 0, _ => ⟨rfl, rfl, rfl, rfl⟩
  | x :: l, i + 1, h => by
    have ih := rcells_at l i (by simpa using h)
    have e : rcells (x :: l) = .int .i64 x.pos :: .int .i64 x.size :: .string ⟨x.name.toArray⟩ :: .int .i64 x.add :: rcells l := rfl
    rw [e, show (i + 1) * 4 = i * 4 + 1 + 1 + 1 + 1 by omega]
    exact ih
theorem bcells_one (l : List UInt8) : ∀ v ∈ bcells l, v.oneCell' = true := by
  intro v hv
  obtain ⟨c, _, rfl⟩ := List.mem_map.1 hv
  rfl
theorem scells_one (l : List Sy) : ∀ v ∈ scells l, v.oneCell' = true := by
  intro v hv
  simp only [scells, List.mem_flatMap, Sy.cells, List.mem_cons, List.not_mem_nil, or_false] at hv
  obtain ⟨t, _, rfl | rfl⟩ := hv <;> rfl
theorem rcells_one (l : List Re) : ∀ v ∈ rcells l, v.oneCell' = true := by
  intro v hv
  simp only [rcells, List.mem_flatMap, Re.cells, List.mem_cons, List.not_mem_nil, or_false] at hv
  obtain ⟨t, _, rfl | rfl | rfl | rfl⟩ := hv <;> rfl

theorem addr_add (b o j : Nat) : (⟨b, o, none⟩ : Addr).add j = ⟨b, o + j, none⟩ := by unfold Addr.add; split <;> simp_all

/-- Where the cells of a row lie. -/
def SrcOf (w : World) (ad : Option Addr) (n : Nat) (cs : List Value) : Prop := 0 < n → ∃ b o, ad = some ⟨b, o, none⟩ ∧ b < w.heap.size ∧ ∀ j v, cs[j]? = some v → w.cell? ⟨b, o + j, none⟩ = some v
theorem SrcOf.below {w w' : World} {B : Nat} {ad : Option Addr} {n : Nat} {cs : List Value} (h : SrcOf w ad n cs) (hb : Below B w w') (hB : w.heap.size ≤ B) : SrcOf w' ad n cs := fun h0 => by
  obtain ⟨b, o, rfl, hl, hc⟩ := h h0
  exact ⟨b, o, rfl, Nat.lt_of_lt_of_le hl hb.size, fun j v hj => by rw [hb.cell (by show b < B; omega)]; exact hc j v hj⟩

theorem OBytes.src {w : World} {v : Value} {l : List UInt8} (h : OBytes w v l) : ∃ ad cap, v = .slice ad l.length cap ∧ SrcOf w ad l.length (bcells l) := by
  obtain ⟨ad, cap, rfl, _, hc⟩ := h
  refine ⟨ad, cap, rfl, fun h0 => ?_⟩
  obtain ⟨b, o, rfl, hl, hcs⟩ := hc h0
  refine ⟨b, o, rfl, hl, fun j v hj => ?_⟩
  obtain ⟨hj1, hj2⟩ := List.getElem?_eq_some_iff.1 hj
  have hj3 : j < l.length := by simpa [bcells] using hj1
  rw [hcs j hj3, ← hj2]
  simp [bcells]
theorem OSyms.src {w : World} {v : Value} {l : List Sy} (h : OSyms w v l) : ∃ ad cap, v = .slice ad l.length cap ∧ SrcOf w ad l.length (scells l) := by
  obtain ⟨ad, cap, rfl, _, hc⟩ := h
  refine ⟨ad, cap, rfl, fun h0 => ?_⟩
  obtain ⟨b, o, rfl, hl, hcs⟩ := hc h0
  refine ⟨b, o, rfl, hl, fun j v hj => ?_⟩
  have hjl : j < (scells l).length := (List.getElem?_eq_some_iff.1 hj).1
  rw [scells_len] at hjl
  have hi : j / 2 < l.length := by omega
  have ha := scells_at l (j / 2) hi
  have hc := hcs (j / 2) hi
  have hr : j = j / 2 * 2 ∨ j = j / 2 * 2 + 1 := by omega
  rcases hr with hr | hr
  · rw [hr] at hj ⊢
    rw [ha.1] at hj
    rw [← hj]
    exact hc.1
  · rw [hr] at hj ⊢
    rw [ha.2] at hj
    rw [← hj]
    exact hc.2
theorem ORels.src {w : World} {v : Value} {l : List Re} (h : ORels w v l) : ∃ ad cap, v = .slice ad l.length cap ∧ SrcOf w ad l.length (rcells l) := by
  obtain ⟨ad, cap, rfl, _, hc⟩ := h
  refine ⟨ad, cap, rfl, fun h0 => ?_⟩
  obtain ⟨b, o, rfl, hl, hcs⟩ := hc h0
  refine ⟨b, o, rfl, hl, fun j v hj => ?_⟩
  have hjl : j < (rcells l).length := (List.getElem?_eq_some_iff.1 hj).1
  rw [rcells_len] at hjl
  have hi : j / 4 < l.length := by omega
  have ha := rcells_at l (j / 4) hi
  have hc := hcs (j / 4) hi
  have hr : j = j / 4 * 4 ∨ j = j / 4 * 4 + 1 ∨ j = j / 4 * 4 + 2 ∨ j = j / 4 * 4 + 3 := by omega
  rcases hr with hr | hr | hr | hr
  · rw [hr] at hj ⊢
    rw [ha.1] at hj
    rw [← hj]
    exact hc.1
  · rw [hr] at hj ⊢
    rw [ha.2.1] at hj
    rw [← hj]
    exact hc.2.1
  · rw [hr] at hj ⊢
    rw [ha.2.2.1] at hj
    rw [← hj]
    exact hc.2.2.1
  · rw [hr] at hj ⊢
    rw [ha.2.2.2] at hj
    rw [← hj]
    exact hc.2.2.2

theorem bytes_of_src {w : World} {ad : Option Addr} {cap : Nat} {l : List UInt8} (h : SrcOf w ad l.length (bcells l)) (hm : l.length ≤ maxLen) : OBytes w (.slice ad l.length cap) l := by
  refine ⟨ad, cap, rfl, hm, fun h0 => ?_⟩
  obtain ⟨b, o, rfl, hl, hc⟩ := h h0
  exact ⟨b, o, rfl, hl, fun i hi => hc i _ (by simp [bcells, hi])⟩
theorem syms_of_src {w : World} {ad : Option Addr} {cap : Nat} {l : List Sy} (h : SrcOf w ad l.length (scells l)) (hm : l.length ≤ maxLen) (hc : l.length ≤ cap) : OSyms w (.slice ad l.length cap) l := by
  refine ⟨ad, cap, rfl, ⟨hm, hc⟩, fun h0 => ?_⟩
  obtain ⟨b, o, rfl, hl, hc⟩ := h h0
  exact ⟨b, o, rfl, hl, fun i hi => ⟨hc _ _ (scells_at l i hi).1, hc _ _ (scells_at l i hi).2⟩⟩
theorem rels_of_src {w : World} {ad : Option Addr} {cap : Nat} {l : List Re} (h : SrcOf w ad l.length (rcells l)) (hm : l.length ≤ maxLen) : ORels w (.slice ad l.length cap) l := by
  refine ⟨ad, cap, rfl, hm, fun h0 => ?_⟩
  obtain ⟨b, o, rfl, hl, hc⟩ := h h0
  have ha := rcells_at l
  exact ⟨b, o, rfl, hl, fun i hi => ⟨hc _ _ (ha i hi).1, hc _ _ (ha i hi).2.1, hc _ _ (ha i hi).2.2.1, hc _ _ (ha i hi).2.2.2⟩⟩

/-! Copies. -/
theorem run_copyN {t e : TypeId} {size : Nat} (hu : Try.prog.underlying t = some (.slice e)) (hs : (Try.prog.info? e).map (·.size) = some size) (w : World) (ty : TypeId) (g n dCap sCap : Nat) (a : Addr) (cur : Array Value) (cs : List Value)
    (hg : w.heap[g]? = some (.cells cur e (0, 0))) (hn : cs.length = n * size) (hcur : cur.size = n * size)
    (hsrc : ∀ j v, cs[j]? = some v → w.cell? (a.add j) = some v) (h1 : ∀ v ∈ cs, v.oneCell' = true) :
    (Builtin.copy_ #[t, t] ty #[.slice (some ⟨g, 0, none⟩) n dCap, .slice (some a) n sCap]).run Try.prog w = .ok (goInt n) (w.setRow g cs.toArray) := by
  have hl := run_loadCells_list (P := Try.prog) w a cs hsrc
  have hst := run_storeCells_at Try.prog g 0 e cs 0 cur w hg (by omega) h1
  cases hq : Try.prog.info? e with
  | none => simp [hq] at hs
  | some i =>
    have hi : i.size = size := by simpa [hq] using hs
    have e : cur.toList.take (0 + 0) ++ cs ++ cur.toList.drop (0 + 0 + cs.length) = cs := by
      rw [List.drop_eq_nil_of_le (by simp; omega)]; simp
    rw [e] at hst
    have hmin : Nat.min n n = n := by simp
    simp [Builtin.copy_, run_underlying hu, Builtin.lenOf, Builtin.firstCells, sizeOf, typeInfo, hq, hi, hmin, ← hn, hl, hst]
theorem run_copyN_none {t e : TypeId} {size : Nat} (hu : Try.prog.underlying t = some (.slice e)) (hs : (Try.prog.info? e).map (·.size) = some size) (w : World) (ty : TypeId) (dCap sCap : Nat) (d a : Option Addr) :
    (Builtin.copy_ #[t, t] ty #[.slice d 0 dCap, .slice a 0 sCap]).run Try.prog w = .ok (goInt 0) w := by
  cases hq : Try.prog.info? e with
  | none => simp [hq] at hs
  | some i =>
    have hl : ∀ (x : Addr), (loadCells x 0).run Try.prog w = .ok #[] w := fun x => by simpa using run_loadCells_list (P := Try.prog) w x [] (by simp)
    cases d <;> cases a <;> simp [Builtin.copy_, run_underlying hu, Builtin.lenOf, Builtin.firstCells, sizeOf, typeInfo, hq, storeCells, hl]
theorem copy_let {t e : TypeId} {size : Nat} (hu : Try.prog.underlying t = some (.slice e)) (hs : (Try.prog.info? e).map (·.size) = some size) (_hz : 0 < size) (Z : World) (H m tc : Nat) (td : Option Addr) (cs : List Value) (cur : Array Value) (hH : Z.heap[H]? = some (.cells cur e (0, 0))) (hn : cs.length = m * size) (hcur : cur.size = m * size)
    (hR : SrcOf Z td m cs) (h1 : ∀ v ∈ cs, v.oneCell' = true) :
    ∃ W4 : World, (∀ ty, (Builtin.copy_ #[t, t] ty #[.slice (some ⟨H, 0, none⟩) m m, .slice td m tc]).run Try.prog Z = .ok (.int .i64 (m : Int)) W4) ∧ W4.heap[H]? = some (.cells cs.toArray e (0, 0)) ∧ Below H Z W4 := by
  by_cases h0 : 0 < m
  · obtain ⟨b, o, rfl, _, hc⟩ := hR h0
    refine ⟨Z.setRow H cs.toArray, fun ty => ?_, setRow_heap Z H cur _ e (0, 0) hH, ?_⟩
    · exact run_copyN hu hs Z ty H m m tc ⟨b, o, none⟩ cur cs hH hn hcur (fun j v hj => by rw [addr_add]; exact hc j v hj) h1
    · exact below_setRow (Below.refl _ _) (Nat.le_refl _) _
  · have hm0 : m = 0 := by omega
    subst hm0
    refine ⟨Z, fun ty => run_copyN_none hu hs Z ty 0 tc _ _, ?_, Below.refl _ _⟩
    have e1 : cur = #[] := Array.eq_empty_of_size_eq_zero (by omega)
    have e2 : cs = [] := List.eq_nil_of_length_eq_zero (by omega)
    rw [hH, e1, e2]

theorem infoB : (Try.prog.info? 5).map (fun i => (i.zero, i.size, i.bytes)) = some (some (.int .u8 0), 1, 1) := by kernel_rfl
theorem infoS : (Try.prog.info? 38).map (fun i => (i.zero, i.size, i.bytes)) = some (some (.agg #[.string ⟨#[]⟩, .int .i64 0]), 2, 24) := by kernel_rfl
theorem infoR : (Try.prog.info? 41).map (fun i => (i.zero, i.size, i.bytes)) = some (some (.agg #[.int .i64 0, .int .i64 0, .string ⟨#[]⟩, .int .i64 0]), 4, 40) := by kernel_rfl
theorem sizeB : (Try.prog.info? 5).map (·.size) = some 1 := by kernel_rfl
theorem sizeS : (Try.prog.info? 38).map (·.size) = some 2 := by kernel_rfl
theorem sizeR : (Try.prog.info? 41).map (·.size) = some 4 := by kernel_rfl

theorem makeB (n : Nat) (hn : n * 1 ≤ 140737488355328) (w : World) : (Instr.makeSlice 22 (.int .i64 (n : Int)) (.int .i64 (n : Int))).run Try.prog w = .ok (.slice (some ⟨w.heap.size, 0, none⟩) n n) (w.alloc (.cells (madeCells #[.int .u8 0] (n * 1)) 5)) := by
  obtain ⟨i, hi, hz0, hz1, hz2⟩ := info_parts infoB
  have := run_make (P := Try.prog) w 22 5 i _ Try.underlying22 hi hz0 .i64 .i64 (n : Int) (n : Int) (by omega) (by omega) (by rw [hz2]; omega) (by omega)
  rw [hz1] at this
  exact this
theorem makeS (n : Nat) (hn : n * 24 ≤ 140737488355328) (w : World) : (Instr.makeSlice 23 (.int .i64 (n : Int)) (.int .i64 (n : Int))).run Try.prog w = .ok (.slice (some ⟨w.heap.size, 0, none⟩) n n) (w.alloc (.cells (madeCells #[.string ⟨#[]⟩, .int .i64 0] (n * 2)) 38)) := by
  obtain ⟨i, hi, hz0, hz1, hz2⟩ := info_parts infoS
  have := run_make (P := Try.prog) w 23 38 i _ Try.underlying23 hi hz0 .i64 .i64 (n : Int) (n : Int) (by omega) (by omega) (by rw [hz2]; omega) (by omega)
  rw [hz1] at this
  exact this
theorem makeR (n : Nat) (hn : n * 40 ≤ 140737488355328) (w : World) : (Instr.makeSlice 24 (.int .i64 (n : Int)) (.int .i64 (n : Int))).run Try.prog w = .ok (.slice (some ⟨w.heap.size, 0, none⟩) n n) (w.alloc (.cells (madeCells #[.int .i64 0, .int .i64 0, .string ⟨#[]⟩, .int .i64 0] (n * 4)) 41)) := by
  obtain ⟨i, hi, hz0, hz1, hz2⟩ := info_parts infoR
  have := run_make (P := Try.prog) w 24 41 i _ Try.underlying24 hi hz0 .i64 .i64 (n : Int) (n : Int) (by omega) (by omega) (by rw [hz2]; omega) (by omega)
  rw [hz1] at this
  exact this

/-- A row of its own. -/
theorem src_of_block {w : World} {g n size : Nat} {e : TypeId} {cs : List Value} (h : w.heap[g]? = some (.cells cs.toArray e (0, 0))) (_ : cs.length = n * size) : SrcOf w (some ⟨g, 0, none⟩) n cs := fun _ => by
  refine ⟨g, 0, rfl, (Array.getElem?_eq_some_iff.1 h).1, fun j v hj => ?_⟩
  rw [Nat.zero_add]
  unfold World.cell?
  simp only [h]
  simpa using hj

set_option maxHeartbeats 1000000 in
theorem ownB_any (l : List UInt8) (v : Value) (w : World) (hv : OBytes w v l) (hn : l.length ≤ 140737488355328) :
    Calls Try.prog 19 #[v] w fun e w' => e = .returned (.slice (some ⟨w.heap.size, 0, none⟩) l.length l.length) ∧ Below w.heap.size w w' ∧ OBytes w' (.slice (some ⟨w.heap.size, 0, none⟩) l.length l.length) l ∧ w.heap.size < w'.heap.size := by
  have hmk := makeB l.length (by omega)
  obtain ⟨ad, cap, rfl, hs⟩ := hv.src
  have hB := oalloc w (.cells (madeCells #[.int .u8 0] (l.length * 1)) 5)
  obtain ⟨W4, hcp, hrow, hb4⟩ := copy_let Try.underlying22 sizeB (by decide) (w.alloc (.cells (madeCells #[.int .u8 0] (l.length * 1)) 5)) w.heap.size l.length cap ad (bcells l) _ (heap_alloc_new _ _) (bcells_len l) (by rw [size_madeCells]) (hs.below hB (Nat.le_refl _)) (bcells_one l)
  have HR := Lib.hid (bytes_of_src (cap := l.length) (src_of_block hrow (bcells_len l)) (by unfold maxLen; omega))
  have HB := Lib.hid (hB.trans hb4)
  have hz4 : w.heap.size < W4.heap.size := (Array.getElem?_eq_some_iff.1 hrow).1
  clear hB hb4 hrow hs hv
  simp only [Nat.mul_one] at hmk hcp
  go_enter Try.func19, Try.ntmps19
  go_wp2
  go_ret
  exact ⟨rfl, HB.out, HR.out, hz4⟩
set_option maxHeartbeats 1000000 in
theorem ownS_any (l : List Sy) (v : Value) (w : World) (hv : OSyms w v l) (hn : l.length * 24 ≤ 140737488355328) :
    Calls Try.prog 20 #[v] w fun e w' => e = .returned (.slice (some ⟨w.heap.size, 0, none⟩) l.length l.length) ∧ Below w.heap.size w w' ∧ OSyms w' (.slice (some ⟨w.heap.size, 0, none⟩) l.length l.length) l ∧ w.heap.size < w'.heap.size := by
  have hmk := makeS l.length (by omega)
  obtain ⟨ad, cap, rfl, hs⟩ := hv.src
  have hB := oalloc w (.cells (madeCells #[.string ⟨#[]⟩, .int .i64 0] (l.length * 2)) 38)
  obtain ⟨W4, hcp, hrow, hb4⟩ := copy_let Try.underlying23 sizeS (by decide) (w.alloc (.cells (madeCells #[.string ⟨#[]⟩, .int .i64 0] (l.length * 2)) 38)) w.heap.size l.length cap ad (scells l) _ (heap_alloc_new _ _) (scells_len l) (by rw [size_madeCells]) (hs.below hB (Nat.le_refl _)) (scells_one l)
  have HR := Lib.hid (syms_of_src (cap := l.length) (src_of_block hrow (scells_len l)) (by unfold maxLen; omega) (Nat.le_refl _))
  have HB := Lib.hid (hB.trans hb4)
  have hz4 : w.heap.size < W4.heap.size := (Array.getElem?_eq_some_iff.1 hrow).1
  clear hB hb4 hrow hs hv
  go_enter Try.func20, Try.ntmps20
  go_wp2
  go_ret
  exact ⟨rfl, HB.out, HR.out, hz4⟩
set_option maxHeartbeats 1000000 in
theorem ownR_any (l : List Re) (v : Value) (w : World) (hv : ORels w v l) (hn : l.length * 40 ≤ 140737488355328) :
    Calls Try.prog 21 #[v] w fun e w' => e = .returned (.slice (some ⟨w.heap.size, 0, none⟩) l.length l.length) ∧ Below w.heap.size w w' ∧ ORels w' (.slice (some ⟨w.heap.size, 0, none⟩) l.length l.length) l ∧ w.heap.size < w'.heap.size := by
  have hmk := makeR l.length (by omega)
  obtain ⟨ad, cap, rfl, hs⟩ := hv.src
  have hB := oalloc w (.cells (madeCells #[.int .i64 0, .int .i64 0, .string ⟨#[]⟩, .int .i64 0] (l.length * 4)) 41)
  obtain ⟨W4, hcp, hrow, hb4⟩ := copy_let Try.underlying24 sizeR (by decide) (w.alloc (.cells (madeCells #[.int .i64 0, .int .i64 0, .string ⟨#[]⟩, .int .i64 0] (l.length * 4)) 41)) w.heap.size l.length cap ad (rcells l) _ (heap_alloc_new _ _) (rcells_len l) (by rw [size_madeCells]) (hs.below hB (Nat.le_refl _)) (rcells_one l)
  have HR := Lib.hid (rels_of_src (cap := l.length) (src_of_block hrow (rcells_len l)) (by unfold maxLen; omega))
  have HB := Lib.hid (hB.trans hb4)
  have hz4 : w.heap.size < W4.heap.size := (Array.getElem?_eq_some_iff.1 hrow).1
  clear hB hb4 hrow hs hv
  go_enter Try.func21, Try.ntmps21
  go_wp2
  go_ret
  exact ⟨rfl, HB.out, HR.out, hz4⟩

end Go.Proofs.Ytobdcnpifbnjaac
