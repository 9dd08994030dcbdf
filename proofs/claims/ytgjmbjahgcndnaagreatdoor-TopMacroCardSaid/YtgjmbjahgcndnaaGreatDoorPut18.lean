import Derived.Test.YtgjmbjahgcndnaaGreatDoorPut14
set_option maxHeartbeats 8000000
set_option maxRecDepth 100000
namespace Go.Proofs.YtgjmbjahgcndnaaGreatDoor.Si
open Go.RowKit
def Sy.cells (s : Sy) : List Value := [.string ⟨s.name.toArray⟩, .int .i64 s.pos]
def qT (l : List Sy) : List Value := l.flatMap Sy.cells
theorem qCY (l : List Sy) : (qT l).length = l.length * 2 := by
 induction l with
 | nil => rfl
 | cons x l ih => simp only [qT, List.flatMap_cons, List.length_append, List.length_cons] at ih ⊢; simp only [Sy.cells, List.length_cons, List.length_nil]; omega
theorem qBE : ∀ (l : List Sy) (i : Nat) (h : i < l.length), (qT l)[i * 2]? = some (.string ⟨l[i].name.toArray⟩) /\ (qT l)[i * 2 + 1]? = some (.int .i64 l[i].pos)
 | x :: l, 0, _ => ⟨rfl, rfl⟩
 | x :: l, i + 1, h => by
   have ih := qBE l i (by simpa using h)
   have e : qT (x :: l) = .string ⟨x.name.toArray⟩ :: .int .i64 x.pos :: qT l := rfl
   rw [e, show (i + 1) * 2 = i * 2 + 1 + 1 by omega]
   exact ih
theorem qIz (l : List Sy) : ∀ v ∈ qT l, v.oneCell' = true := by
 intro v hv
 simp only [qT, List.mem_flatMap, Sy.cells, List.mem_cons, List.not_mem_nil, or_false] at hv
 obtain ⟨t, _, rfl | rfl⟩ := hv <;> rfl
def qC2 (w : World) (ad : Option Addr) (n : Nat) (cs : List Value) : Prop := 0 < n -> ∃ b o, ad = some ⟨b, o, none⟩ /\ b < w.heap.size /\ ∀ j v, cs[j]? = some v -> w.cell? ⟨b, o + j, none⟩ = some v
theorem qC2.below {w w' : World} {B : Nat} {ad : Option Addr} {n : Nat} {cs : List Value} (h : qC2 w ad n cs) (hb : Below B w w') (hB : w.heap.size <= B) : qC2 w' ad n cs := fun h0 => by
 obtain ⟨b, o, rfl, hl, hc⟩ := h h0
 exact ⟨b, o, rfl, Nat.lt_of_lt_of_le hl hb.size, fun j v hj => by rw [hb.cell (by show b < B; omega)]; exact hc j v hj⟩
theorem qAw.src {w : World} {v : Value} {l : List Sy} (h : qAw w v l) : ∃ ad cap, v = .slice ad l.length cap /\ qC2 w ad l.length (qT l) := by
 obtain ⟨ad, cap, rfl, _, hc⟩ := h
 refine ⟨ad, cap, rfl, fun h0 => ?_⟩
 obtain ⟨b, o, rfl, hl, hcs⟩ := hc h0
 refine ⟨b, o, rfl, hl, fun j v hj => ?_⟩
 have hjl : j < (qT l).length := (List.getElem?_eq_some_iff.1 hj).1
 rw [qCY] at hjl
 have hi : j / 2 < l.length := by omega
 have ha := qBE l (j / 2) hi
 have hc := hcs (j / 2) hi
 have hr : j = j / 2 * 2 \/ j = j / 2 * 2 + 1 := by omega
 rcases hr with hr | hr
 ·rw [hr] at hj ⊢
  rw [ha.1] at hj
  rw [<- hj]
  exact hc.1
 ·rw [hr] at hj ⊢
  rw [ha.2] at hj
  rw [<- hj]
  exact hc.2
theorem qLB {t e : TypeId} {size : Nat} (hu : Tryz.prog.underlying t = some (.slice e)) (hs : (Tryz.prog.info? e).map (·.size) = some size) (w : World) (ty : TypeId) (g n dCap sCap : Nat) (a : Addr) (cur : Array Value) (cs : List Value)
  (hg : w.heap[g]? = some (.cells cur e (0, 0))) (hn : cs.length = n * size) (hcur : cur.size = n * size)
  (hsrc : ∀ j v, cs[j]? = some v -> w.cell? (a.add j) = some v) (h1 : ∀ v ∈ cs, v.oneCell' = true) :
  (Builtin.copy_ #[t, t] ty #[.slice (some ⟨g, 0, none⟩) n dCap, .slice (some a) n sCap]).run Tryz.prog w = .ok (goInt n) (w.setRow g cs.toArray) := by
 have hl := run_loadCells_list (P := Tryz.prog) w a cs hsrc
 have hst := run_storeCells_at Tryz.prog g 0 e cs 0 cur w hg (by omega) h1
 cases hq : Tryz.prog.info? e with
 | none => simp [hq] at hs
 | some i =>
   have hi : i.size = size := by simpa [hq] using hs
   have e : cur.toList.take (0 + 0) ++ cs ++ cur.toList.drop (0 + 0 + cs.length) = cs := by
    rw [List.drop_eq_nil_of_le (by simp; omega)]; simp
   rw [e] at hst
   have hmin : Nat.min n n = n := by simp
   simp [Builtin.copy_, run_underlying hu, Builtin.lenOf, Builtin.firstCells, sizeOf, typeInfo, hq, hi, hmin, <- hn, hl, hst]
theorem qEI {t e : TypeId} {size : Nat} (hu : Tryz.prog.underlying t = some (.slice e)) (hs : (Tryz.prog.info? e).map (·.size) = some size) (w : World) (ty : TypeId) (dCap sCap : Nat) (d a : Option Addr) :
  (Builtin.copy_ #[t, t] ty #[.slice d 0 dCap, .slice a 0 sCap]).run Tryz.prog w = .ok (goInt 0) w := by
 cases hq : Tryz.prog.info? e with
 | none => simp [hq] at hs
 | some i =>
   have hl : ∀ (x : Addr), (loadCells x 0).run Tryz.prog w = .ok #[] w := fun x => by simpa using run_loadCells_list (P := Tryz.prog) w x [] (by simp)
   cases d <;> cases a <;> simp [Builtin.copy_, run_underlying hu, Builtin.lenOf, Builtin.firstCells, sizeOf, typeInfo, hq, storeCells, hl]
theorem qEw {t e : TypeId} {size : Nat} (hu : Tryz.prog.underlying t = some (.slice e)) (hs : (Tryz.prog.info? e).map (·.size) = some size) (_hz : 0 < size) (Z : World) (H m tc : Nat) (td : Option Addr) (cs : List Value) (cur : Array Value) (hH : Z.heap[H]? = some (.cells cur e (0, 0))) (hn : cs.length = m * size) (hcur : cur.size = m * size)
  (hR : qC2 Z td m cs) (h1 : ∀ v ∈ cs, v.oneCell' = true) :
  ∃ W4 : World, (∀ ty, (Builtin.copy_ #[t, t] ty #[.slice (some ⟨H, 0, none⟩) m m, .slice td m tc]).run Tryz.prog Z = .ok (.int .i64 (m : Int)) W4) /\ W4.heap[H]? = some (.cells cs.toArray e (0, 0)) /\ Below H Z W4 := by
 by_cases h0 : 0 < m
 ·obtain ⟨b, o, rfl, _, hc⟩ := hR h0
  refine ⟨Z.setRow H cs.toArray, fun ty => ?_, setRow_heap Z H cur _ e (0, 0) hH, ?_⟩
  ·exact qLB hu hs Z ty H m m tc ⟨b, o, none⟩ cur cs hH hn hcur (fun j v hj => by rw [qAS]; exact hc j v hj) h1
  ·exact below_setRow (Below.refl _ _) (Nat.le_refl _) _
 ·have hm0 : m = 0 := by omega
  subst hm0
  refine ⟨Z, fun ty => qEI hu hs Z ty 0 tc _ _, ?_, Below.refl _ _⟩
  have e1 : cur = #[] := Array.eq_empty_of_size_eq_zero (by omega)
  have e2 : cs = [] := List.eq_nil_of_length_eq_zero (by omega)
  rw [hH, e1, e2]
theorem sizeB : (Tryz.prog.info? 5).map (·.size) = some 1 := by kernel_rfl
theorem sizeS : (Tryz.prog.info? 81).map (·.size) = some 2 := by kernel_rfl
theorem sizeI : (Tryz.prog.info? 3).map (·.size) = some 1 := by kernel_rfl
theorem qGO : (Tryz.prog.info? 5).map (fun i => (i.zero, i.size, i.bytes)) = some (some (.int .u8 0), 1, 1) := by kernel_rfl
theorem qJn : (Tryz.prog.info? 81).map (fun i => (i.zero, i.size, i.bytes)) = some (some (.agg #[.string ⟨#[]⟩, .int .i64 0]), 2, 24) := by kernel_rfl
theorem makeB (n : Nat) (hn : n * 1 <= 140737488355328) (w : World) : (Instr.makeSlice 31 (.int .i64 (n : Int)) (.int .i64 (n : Int))).run Tryz.prog w = .ok (.slice (some ⟨w.heap.size, 0, none⟩) n n) (w.alloc (.cells (madeCells #[.int .u8 0] (n * 1)) 5)) := by
 obtain ⟨i, hi, hz0, hz1, hz2⟩ := info_parts qGO
 have := run_make (P := Tryz.prog) w 31 5 i _ Tryz.underlying31 hi hz0 .i64 .i64 (n : Int) (n : Int) (by omega) (by omega) (by rw [hz2]; omega) (by omega)
 rw [hz1] at this
 exact this
theorem makeS (n : Nat) (hn : n * 24 <= 140737488355328) (w : World) : (Instr.makeSlice 32 (.int .i64 (n : Int)) (.int .i64 (n : Int))).run Tryz.prog w = .ok (.slice (some ⟨w.heap.size, 0, none⟩) n n) (w.alloc (.cells (madeCells #[.string ⟨#[]⟩, .int .i64 0] (n * 2)) 81)) := by
 obtain ⟨i, hi, hz0, hz1, hz2⟩ := info_parts qJn
 have := run_make (P := Tryz.prog) w 32 81 i _ Tryz.underlying32 hi hz0 .i64 .i64 (n : Int) (n : Int) (by omega) (by omega) (by rw [hz2]; omega) (by omega)
 rw [hz1] at this
 exact this
theorem makeI (n : Nat) (hn : n * 8 <= 140737488355328) (w : World) : (Instr.makeSlice 22 (.int .i64 (n : Int)) (.int .i64 (n : Int))).run Tryz.prog w = .ok (.slice (some ⟨w.heap.size, 0, none⟩) n n) (w.alloc (.cells (madeCells #[.int .i64 0] (n * 1)) 3)) := by
 obtain ⟨i, hi, hz0, hz1, hz2⟩ := info_parts infoI
 have := run_make (P := Tryz.prog) w 22 3 i _ Tryz.underlying22 hi hz0 .i64 .i64 (n : Int) (n : Int) (by omega) (by omega) (by rw [hz2]; omega) (by omega)
 rw [hz1] at this
 exact this
theorem qDc {w : World} {g n size : Nat} {e : TypeId} {cs : List Value} (h : w.heap[g]? = some (.cells cs.toArray e (0, 0))) (_ : cs.length = n * size) : qC2 w (some ⟨g, 0, none⟩) n cs := fun _ => by
 refine ⟨g, 0, rfl, (Array.getElem?_eq_some_iff.1 h).1, fun j v hj => ?_⟩
 rw [Nat.zero_add]
 unfold World.cell?
 simp only [h]
 simpa using hj
theorem brd_src {w : World} {ba : Option Addr} {l : List UInt8} (h : BRd w ba l) : qC2 w ba l.length (qA7 l) := fun h0 => by
 obtain ⟨b, off, e, hl, hc⟩ := h h0
 refine ⟨b, off, e, hl, fun j v hj => ?_⟩
 have hj1 : j < l.length := by
  have := (List.getElem?_eq_some_iff.1 hj).1
  simpa [qA7] using this
 rw [hc j hj1, <- hj]
 simp [qA7, bsOf, hj1, List.getD]
theorem trd_src {w : World} {ta : Option Addr} {l : List Int} (h : TRd w ta l) : qC2 w ta l.length (qAk l) := fun h0 => by
 obtain ⟨b, off, e, hl, hc⟩ := h h0
 refine ⟨b, off, e, hl, fun j v hj => ?_⟩
 have hj1 : j < l.length := by
  have := (List.getElem?_eq_some_iff.1 hj).1
  simpa [qAk] using this
 rw [hc j hj1, <- hj]
 simp [qAk, hj1, List.getD]
theorem pownB (l : List UInt8) (ad : Option Addr) (cap : Nat) (w : World) (hv : BRd w ad l) (hn : l.length * 1 <= 140737488355328) :
  Calls Tryz.prog 31 #[.slice ad l.length cap] w fun e w' => e = .returned (.slice (some ⟨w.heap.size, 0, none⟩) l.length l.length) /\ Below w.heap.size w w' /\ w'.heap[w.heap.size]? = some (.cells (qA7 l).toArray 5 (0, 0)) := by
 have hmk := makeB l.length hn
 have hB := qE w (.cells (madeCells #[.int .u8 0] (l.length * 1)) 5)
 obtain ⟨W4, hcp, hrow, hb4⟩ := qEw Tryz.underlying31 sizeB (by decide) (w.alloc (.cells (madeCells #[.int .u8 0] (l.length * 1)) 5)) w.heap.size l.length cap ad (qA7 l) _ (heap_alloc_new _ _) (by rw [qJG, Nat.mul_one]) (by rw [size_madeCells]) ((brd_src hv).below hB (Nat.le_refl _)) (qJP l)
 have HB := Lib.hid (hB.trans hb4)
 have HR := Lib.hid hrow
 clear hB hb4 hrow
 simp only [Nat.mul_one] at hmk hcp
 go_enter Tryz.func31, Tryz.ntmps31
 go_wp2
 go_ret
 exact ⟨rfl, HB.out, HR.out⟩
theorem pownI (l : List Int) (ad : Option Addr) (cap : Nat) (w : World) (hv : TRd w ad l) (hn : l.length * 8 <= 140737488355328) :
  Calls Tryz.prog 25 #[.slice ad l.length cap] w fun e w' => e = .returned (.slice (some ⟨w.heap.size, 0, none⟩) l.length l.length) /\ Below w.heap.size w w' /\ w'.heap[w.heap.size]? = some (.cells (qAk l).toArray 3 (0, 0)) := by
 have hmk := makeI l.length hn
 have hB := qE w (.cells (madeCells #[.int .i64 0] (l.length * 1)) 3)
 obtain ⟨W4, hcp, hrow, hb4⟩ := qEw Tryz.underlying22 sizeI (by decide) (w.alloc (.cells (madeCells #[.int .i64 0] (l.length * 1)) 3)) w.heap.size l.length cap ad (qAk l) _ (heap_alloc_new _ _) (qEi l) (by rw [size_madeCells]) ((trd_src hv).below hB (Nat.le_refl _)) (qI8 l)
 have HB := Lib.hid (hB.trans hb4)
 have HR := Lib.hid hrow
 clear hB hb4 hrow
 simp only [Nat.mul_one] at hmk hcp
 go_enter Tryz.func25, Tryz.ntmps25
 go_wp2
 go_ret
 exact ⟨rfl, HB.out, HR.out⟩
theorem pownS (l : List Sy) (ad : Option Addr) (cap : Nat) (w : World) (hv : qC2 w ad l.length (qT l)) (hn : l.length * 24 <= 140737488355328) :
  Calls Tryz.prog 32 #[.slice ad l.length cap] w fun e w' => e = .returned (.slice (some ⟨w.heap.size, 0, none⟩) l.length l.length) /\ Below w.heap.size w w' /\ w'.heap[w.heap.size]? = some (.cells (qT l).toArray 81 (0, 0)) := by
 have hmk := makeS l.length hn
 have hB := qE w (.cells (madeCells #[.string ⟨#[]⟩, .int .i64 0] (l.length * 2)) 81)
 obtain ⟨W4, hcp, hrow, hb4⟩ := qEw Tryz.underlying32 sizeS (by decide) (w.alloc (.cells (madeCells #[.string ⟨#[]⟩, .int .i64 0] (l.length * 2)) 81)) w.heap.size l.length cap ad (qT l) _ (heap_alloc_new _ _) (qCY l) (by rw [size_madeCells]) (hv.below hB (Nat.le_refl _)) (qIz l)
 have HB := Lib.hid (hB.trans hb4)
 have HR := Lib.hid hrow
 clear hB hb4 hrow
 go_enter Tryz.func32, Tryz.ntmps32
 go_wp2
 go_ret
 exact ⟨rfl, HB.out, HR.out⟩
end Go.Proofs.YtgjmbjahgcndnaaGreatDoor.Si
namespace Go.Proofs.YtgjmbjahgcndnaaGreatDoor.Si
open Go.RowKit Isa
theorem qEo (base : Int) (l : List UInt8) (ba : Option Addr) (bc : Nat) (sy : List Sy) (s0 : Option Addr) (s2 : Nat) (w : World) (hB : BRd w ba l) (hS : qC2 w s0 sy.length (qT sy)) (hl : l.length * 1 <= 140737488355328) (hsl : sy.length * 24 <= 140737488355328) :
  Calls Tryz.prog 17 #[.agg #[.int .i64 base, .slice ba l.length bc, .slice s0 sy.length s2]] w fun e w' => ∃ gb gs, e = .returned (.agg #[.int .i64 base, .slice (some ⟨gb, 0, none⟩) l.length l.length, .slice (some ⟨gs, 0, none⟩) sy.length sy.length]) /\ Below w.heap.size w w' /\ w.heap.size <= gb /\ w.heap.size <= gs /\ w'.heap[gb]? = some (.cells (qA7 l).toArray 5 (0, 0)) /\ w'.heap[gs]? = some (.cells (qT sy).toArray 81 (0, 0)) := by
 obtain ⟨V, hV⟩ : ∃ V, V = (w.alloc (.cells #[.int .i64 base, .slice ba l.length bc, .slice s0 sy.length s2] 34)).alloc (.cells #[.int .i64 0, .slice none 0 0, .slice none 0 0] 34) := ⟨_, rfl⟩
 have hV0 : Below w.heap.size w V := by rw [hV]; exact (qE _ _).trans ((qE _ _).mono (by simp))
 have hV1 : V.heap[w.heap.size]? = some (.cells #[.int .i64 base, .slice ba l.length bc, .slice s0 sy.length s2] 34 (0, 0)) := by rw [hV, (qE _ _).block _ (by simp)]; exact qK _ _ _
 have hV2 : V.heap[w.heap.size + 1]? = some (.cells #[.int .i64 0, .slice none 0 0, .slice none 0 0] 34 (0, 0)) := by
  rw [hV]
  have := qK (w.alloc (.cells #[.int .i64 base, .slice ba l.length bc, .slice s0 sy.length s2] 34)) #[.int .i64 0, .slice none 0 0, .slice none 0 0] 34
  simpa using this
 have HV := Lib.hid hV.symm
 have BX0 : Hid (V.drew.heap[w.heap.size]? = some (.cells #[.int .i64 base, .slice ba l.length bc, .slice s0 sy.length s2] 34 (0, 0))) := hV1
 have BZ0 : Hid (V.drew.heap[w.heap.size + 1]? = some (.cells #[.int .i64 0, .slice none 0 0, .slice none 0 0] 34 (0, 0))) := hV2
 have BE0 := Lib.hid hV0.drew
 have HOB : Hid (∀ X, Below w.heap.size w X -> Calls Tryz.prog 31 #[.slice ba l.length bc] X fun e w' => e = .returned (.slice (some ⟨X.heap.size, 0, none⟩) l.length l.length) /\ Below X.heap.size X w' /\ w'.heap[X.heap.size]? = some (.cells (qA7 l).toArray 5 (0, 0))) := fun X hX => pownB l ba bc X (hB.next hX) hl
 have HOS : Hid (∀ X, Below w.heap.size w X -> Calls Tryz.prog 32 #[.slice s0 sy.length s2] X fun e w' => e = .returned (.slice (some ⟨X.heap.size, 0, none⟩) sy.length sy.length) /\ Below X.heap.size X w' /\ w'.heap[X.heap.size]? = some (.cells (qT sy).toArray 81 (0, 0))) := fun X hX => pownS sy s0 s2 X (hS.below hX (Nat.le_refl _)) hsl
 clear hV hV0 hV1 hV2 hB hS
 go_enter Tryz.func17, Tryz.ntmps17
 go_upto_region 1 with fail
 rw [HV.out]
 clear HV
 refine wp_region_noPanic ?_
 refine wp_region_held_drew (S := fun _ => True) (by kernel_rfl) trivial (fun hHeld => ?_)
 generalize V.drew = V0 at *
 refine tk 0 3 hHeld ?_
 simp only [sA, sB, sC]
 refine tk 3 6 hHeld ?_
 simp only [sA, sB, sC]
 refine wpAnyH_ready (rs := [1, 4]) (by kernel_rfl) (by simp) ?_
 refine AllReadyH.cons rfl (fun K hK => ?_) (AllReadyH.cons rfl (fun K hK => ?_) AllReadyH.nil)
 ·have x := qA (i := 1) BX0.out rfl
  go_simp
  refine hK.out _ _ trivial (fun hHeld => ?_)
  clear hK K x
  refine wpAnyH_ready (rs := [2, 4]) (by kernel_rfl) (by simp) ?_
  refine AllReadyH.cons rfl (fun K hK => ?_) (AllReadyH.cons rfl (fun K hK => ?_) AllReadyH.nil)
  ·go_simp
   refine (HOB.out V0 BE0.out).mono ?_
   rintro e V1 ⟨rfl, hb, hrow⟩
   have BX1 := Lib.hid ((hb.block _ (Array.getElem?_eq_some_iff.1 BX0.out).1).trans BX0.out)
   have BZ1 := Lib.hid ((hb.block _ (Array.getElem?_eq_some_iff.1 BZ0.out).1).trans BZ0.out)
   have RB1 := Lib.hid hrow
   have BE1 := Lib.hid (BE0.out.trans (hb.mono BE0.out.size))
   have hz0 := (Array.getElem?_eq_some_iff.1 BZ0.out).1
   refine hK.out _ _ trivial (fun hHeld => ?_)
   clear hK K hb hrow BX0 BZ0 BE0
   refine wr1 4 fun K hK => ?_
   have x := qA (i := 2) BX1.out rfl
   go_simp
   refine hK.out _ _ trivial (fun hHeld => ?_)
   clear hK K x
   refine tk 6 9 hHeld ?_
   simp only [sA, sB, sC]
   refine wr1 5 fun K hK => ?_
   go_simp
   refine (HOS.out V1 BE1.out).mono ?_
   rintro e V2 ⟨rfl, hb, hrow⟩
   have BX2 := Lib.hid ((hb.block _ (Array.getElem?_eq_some_iff.1 BX1.out).1).trans BX1.out)
   have BZ2 := Lib.hid ((hb.block _ (Array.getElem?_eq_some_iff.1 BZ1.out).1).trans BZ1.out)
   have RB2 := Lib.hid ((hb.block _ (Array.getElem?_eq_some_iff.1 RB1.out).1).trans RB1.out)
   have RS := Lib.hid hrow
   have BE2 := Lib.hid (BE1.out.trans (hb.mono BE1.out.size))
   have hz1 := (Array.getElem?_eq_some_iff.1 BZ1.out).1
   refine hK.out _ _ trivial (fun hHeld => ?_)
   clear hK K hb hrow BX1 BZ1 BE1 RB1
   refine wr1 7 fun K hK => ?_
   have x := qA (i := 1) BX2.out rfl
   have xf := qD (i := 1) BX2.out
   go_simp
   refine hK.out _ _ trivial (fun hHeld => ?_)
   clear hK K x xf
   refine tk 8 10 hHeld ?_
   simp only [sA, sB, sC]
   refine wr1 9 fun K hK => ?_
   have hX1 := _root_.Go.heap_setCell_same V2 w.heap.size 1 _ 34 (.slice (some ⟨V0.heap.size, 0, none⟩) l.length l.length) BX2.out
   have x := qA (i := 2) hX1 rfl
   have xf := qD (i := 2) hX1
   go_simp
   refine hK.out _ _ trivial (fun hHeld => ?_)
   clear hK K x xf hX1
   refine wpAnyH_done (by kernel_rfl) ?_ _
   refine NoPanic.normal ?_
   have hX1 := _root_.Go.heap_setCell_same V2 w.heap.size 1 _ 34 (.slice (some ⟨V0.heap.size, 0, none⟩) l.length l.length) BX2.out
   have hX2 := _root_.Go.heap_setCell_same _ w.heap.size 2 _ 34 (.slice (some ⟨V1.heap.size, 0, none⟩) sy.length sy.length) hX1
   have oth : ∀ q, q ≠ w.heap.size -> ((V2.setCell ⟨w.heap.size, 1, none⟩ (.slice (some ⟨V0.heap.size, 0, none⟩) l.length l.length)).setCell ⟨w.heap.size, 2, none⟩ (.slice (some ⟨V1.heap.size, 0, none⟩) sy.length sy.length)).heap[q]? = V2.heap[q]? := fun q hq => by rw [Below.heap_setCell _ _ _ _ (by exact hq), Below.heap_setCell _ _ _ _ (by exact hq)]
   have HX := Lib.hid hX2
   have HZ := Lib.hid ((oth (w.heap.size + 1) (by omega)).trans BZ2.out)
   have HRB := Lib.hid ((oth _ (by omega)).trans RB2.out)
   have HRS := Lib.hid ((oth _ (by omega)).trans RS.out)
   have HBE := Lib.hid ((BE2.out.setCell (p := ⟨w.heap.size, 1, none⟩) (Nat.le_refl _) (.slice (some ⟨V0.heap.size, 0, none⟩) l.length l.length)).setCell (p := ⟨w.heap.size, 2, none⟩) (Nat.le_refl _) (.slice (some ⟨V1.heap.size, 0, none⟩) sy.length sy.length))
   have hgb : w.heap.size + 1 < V0.heap.size := by omega
   have hgs : w.heap.size + 1 < V1.heap.size := by omega
   clear hX1 hX2 oth
   generalize ((V2.setCell ⟨w.heap.size, 1, none⟩ (.slice (some ⟨V0.heap.size, 0, none⟩) l.length l.length)).setCell ⟨w.heap.size, 2, none⟩ (.slice (some ⟨V1.heap.size, 0, none⟩) sy.length sy.length)) = X at *
   generalize V0.heap.size = gb at *
   generalize V1.heap.size = gs at *
   have y0 := qA (i := 0) HX.out rfl
   have y1 := qA (i := 1) HX.out rfl
   have y2 := qA (i := 2) HX.out rfl
   have z0 := qA (i := 0) HZ.out rfl
   have z1 := qA (i := 1) HZ.out rfl
   have z2 := qA (i := 2) HZ.out rfl
   have zf0 := qD (i := 0) HZ.out
   have zf1 := qD (i := 1) HZ.out
   have zf2 := qD (i := 2) HZ.out
   go_wp2
   refine bodyPost_ret (v := .agg #[.int .i64 base, .slice (some ⟨gb, 0, none⟩) l.length l.length, .slice (some ⟨gs, 0, none⟩) sy.length sy.length]) (by simp [results, Tryz.results17, go_sem, z0, z1, z2]) rfl ⟨gb, gs, rfl, ((HBE.out.setCell (by show w.heap.size <= w.heap.size + 1; omega) _).setCell (by show w.heap.size <= w.heap.size + 1; omega) _).setCell (by show w.heap.size <= w.heap.size + 1; omega) _, by omega, by omega, ?_, ?_⟩
   ·rw [Below.heap_setCell _ _ _ _ (by show gb ≠ w.heap.size + 1; omega), Below.heap_setCell _ _ _ _ (by show gb ≠ w.heap.size + 1; omega), Below.heap_setCell _ _ _ _ (by show gb ≠ w.heap.size + 1; omega)]; exact HRB.out
   ·rw [Below.heap_setCell _ _ _ _ (by show gs ≠ w.heap.size + 1; omega), Below.heap_setCell _ _ _ _ (by show gs ≠ w.heap.size + 1; omega), Below.heap_setCell _ _ _ _ (by show gs ≠ w.heap.size + 1; omega)]; exact HRS.out
  ·have x := qA (i := 2) BX0.out rfl
   go_simp
   refine hK.out _ _ trivial (fun hHeld => ?_)
   clear hK K x
   refine wr1 2 fun K hK => ?_
   go_simp
   refine (HOB.out V0 BE0.out).mono ?_
   rintro e V1 ⟨rfl, hb, hrow⟩
   have BX1 := Lib.hid ((hb.block _ (Array.getElem?_eq_some_iff.1 BX0.out).1).trans BX0.out)
   have BZ1 := Lib.hid ((hb.block _ (Array.getElem?_eq_some_iff.1 BZ0.out).1).trans BZ0.out)
   have RB1 := Lib.hid hrow
   have BE1 := Lib.hid (BE0.out.trans (hb.mono BE0.out.size))
   have hz0 := (Array.getElem?_eq_some_iff.1 BZ0.out).1
   refine hK.out _ _ trivial (fun hHeld => ?_)
   clear hK K hb hrow BX0 BZ0 BE0
   refine tk 6 9 hHeld ?_
   simp only [sA, sB, sC]
   refine wr1 5 fun K hK => ?_
   go_simp
   refine (HOS.out V1 BE1.out).mono ?_
   rintro e V2 ⟨rfl, hb, hrow⟩
   have BX2 := Lib.hid ((hb.block _ (Array.getElem?_eq_some_iff.1 BX1.out).1).trans BX1.out)
   have BZ2 := Lib.hid ((hb.block _ (Array.getElem?_eq_some_iff.1 BZ1.out).1).trans BZ1.out)
   have RB2 := Lib.hid ((hb.block _ (Array.getElem?_eq_some_iff.1 RB1.out).1).trans RB1.out)
   have RS := Lib.hid hrow
   have BE2 := Lib.hid (BE1.out.trans (hb.mono BE1.out.size))
   have hz1 := (Array.getElem?_eq_some_iff.1 BZ1.out).1
   refine hK.out _ _ trivial (fun hHeld => ?_)
   clear hK K hb hrow BX1 BZ1 BE1 RB1
   refine wr1 7 fun K hK => ?_
   have x := qA (i := 1) BX2.out rfl
   have xf := qD (i := 1) BX2.out
   go_simp
   refine hK.out _ _ trivial (fun hHeld => ?_)
   clear hK K x xf
   refine tk 8 10 hHeld ?_
   simp only [sA, sB, sC]
   refine wr1 9 fun K hK => ?_
   have hX1 := _root_.Go.heap_setCell_same V2 w.heap.size 1 _ 34 (.slice (some ⟨V0.heap.size, 0, none⟩) l.length l.length) BX2.out
   have x := qA (i := 2) hX1 rfl
   have xf := qD (i := 2) hX1
   go_simp
   refine hK.out _ _ trivial (fun hHeld => ?_)
   clear hK K x xf hX1
   refine wpAnyH_done (by kernel_rfl) ?_ _
   refine NoPanic.normal ?_
   have hX1 := _root_.Go.heap_setCell_same V2 w.heap.size 1 _ 34 (.slice (some ⟨V0.heap.size, 0, none⟩) l.length l.length) BX2.out
   have hX2 := _root_.Go.heap_setCell_same _ w.heap.size 2 _ 34 (.slice (some ⟨V1.heap.size, 0, none⟩) sy.length sy.length) hX1
   have oth : ∀ q, q ≠ w.heap.size -> ((V2.setCell ⟨w.heap.size, 1, none⟩ (.slice (some ⟨V0.heap.size, 0, none⟩) l.length l.length)).setCell ⟨w.heap.size, 2, none⟩ (.slice (some ⟨V1.heap.size, 0, none⟩) sy.length sy.length)).heap[q]? = V2.heap[q]? := fun q hq => by rw [Below.heap_setCell _ _ _ _ (by exact hq), Below.heap_setCell _ _ _ _ (by exact hq)]
   have HX := Lib.hid hX2
   have HZ := Lib.hid ((oth (w.heap.size + 1) (by omega)).trans BZ2.out)
   have HRB := Lib.hid ((oth _ (by omega)).trans RB2.out)
   have HRS := Lib.hid ((oth _ (by omega)).trans RS.out)
   have HBE := Lib.hid ((BE2.out.setCell (p := ⟨w.heap.size, 1, none⟩) (Nat.le_refl _) (.slice (some ⟨V0.heap.size, 0, none⟩) l.length l.length)).setCell (p := ⟨w.heap.size, 2, none⟩) (Nat.le_refl _) (.slice (some ⟨V1.heap.size, 0, none⟩) sy.length sy.length))
   have hgb : w.heap.size + 1 < V0.heap.size := by omega
   have hgs : w.heap.size + 1 < V1.heap.size := by omega
   clear hX1 hX2 oth
   generalize ((V2.setCell ⟨w.heap.size, 1, none⟩ (.slice (some ⟨V0.heap.size, 0, none⟩) l.length l.length)).setCell ⟨w.heap.size, 2, none⟩ (.slice (some ⟨V1.heap.size, 0, none⟩) sy.length sy.length)) = X at *
   generalize V0.heap.size = gb at *
   generalize V1.heap.size = gs at *
   have y0 := qA (i := 0) HX.out rfl
   have y1 := qA (i := 1) HX.out rfl
   have y2 := qA (i := 2) HX.out rfl
   have z0 := qA (i := 0) HZ.out rfl
   have z1 := qA (i := 1) HZ.out rfl
   have z2 := qA (i := 2) HZ.out rfl
   have zf0 := qD (i := 0) HZ.out
   have zf1 := qD (i := 1) HZ.out
   have zf2 := qD (i := 2) HZ.out
   go_wp2
   refine bodyPost_ret (v := .agg #[.int .i64 base, .slice (some ⟨gb, 0, none⟩) l.length l.length, .slice (some ⟨gs, 0, none⟩) sy.length sy.length]) (by simp [results, Tryz.results17, go_sem, z0, z1, z2]) rfl ⟨gb, gs, rfl, ((HBE.out.setCell (by show w.heap.size <= w.heap.size + 1; omega) _).setCell (by show w.heap.size <= w.heap.size + 1; omega) _).setCell (by show w.heap.size <= w.heap.size + 1; omega) _, by omega, by omega, ?_, ?_⟩
   ·rw [Below.heap_setCell _ _ _ _ (by show gb ≠ w.heap.size + 1; omega), Below.heap_setCell _ _ _ _ (by show gb ≠ w.heap.size + 1; omega), Below.heap_setCell _ _ _ _ (by show gb ≠ w.heap.size + 1; omega)]; exact HRB.out
   ·rw [Below.heap_setCell _ _ _ _ (by show gs ≠ w.heap.size + 1; omega), Below.heap_setCell _ _ _ _ (by show gs ≠ w.heap.size + 1; omega), Below.heap_setCell _ _ _ _ (by show gs ≠ w.heap.size + 1; omega)]; exact HRS.out
 ·have x := qA (i := 2) BX0.out rfl
  go_simp
  refine hK.out _ _ trivial (fun hHeld => ?_)
  clear hK K x
  refine wr1 1 fun K hK => ?_
  have x := qA (i := 1) BX0.out rfl
  go_simp
  refine hK.out _ _ trivial (fun hHeld => ?_)
  clear hK K x
  refine wr1 2 fun K hK => ?_
  go_simp
  refine (HOB.out V0 BE0.out).mono ?_
  rintro e V1 ⟨rfl, hb, hrow⟩
  have BX1 := Lib.hid ((hb.block _ (Array.getElem?_eq_some_iff.1 BX0.out).1).trans BX0.out)
  have BZ1 := Lib.hid ((hb.block _ (Array.getElem?_eq_some_iff.1 BZ0.out).1).trans BZ0.out)
  have RB1 := Lib.hid hrow
  have BE1 := Lib.hid (BE0.out.trans (hb.mono BE0.out.size))
  have hz0 := (Array.getElem?_eq_some_iff.1 BZ0.out).1
  refine hK.out _ _ trivial (fun hHeld => ?_)
  clear hK K hb hrow BX0 BZ0 BE0
  refine tk 6 9 hHeld ?_
  simp only [sA, sB, sC]
  refine wr1 5 fun K hK => ?_
  go_simp
  refine (HOS.out V1 BE1.out).mono ?_
  rintro e V2 ⟨rfl, hb, hrow⟩
  have BX2 := Lib.hid ((hb.block _ (Array.getElem?_eq_some_iff.1 BX1.out).1).trans BX1.out)
  have BZ2 := Lib.hid ((hb.block _ (Array.getElem?_eq_some_iff.1 BZ1.out).1).trans BZ1.out)
  have RB2 := Lib.hid ((hb.block _ (Array.getElem?_eq_some_iff.1 RB1.out).1).trans RB1.out)
  have RS := Lib.hid hrow
  have BE2 := Lib.hid (BE1.out.trans (hb.mono BE1.out.size))
  have hz1 := (Array.getElem?_eq_some_iff.1 BZ1.out).1
  refine hK.out _ _ trivial (fun hHeld => ?_)
  clear hK K hb hrow BX1 BZ1 BE1 RB1
  refine wr1 7 fun K hK => ?_
  have x := qA (i := 1) BX2.out rfl
  have xf := qD (i := 1) BX2.out
  go_simp
  refine hK.out _ _ trivial (fun hHeld => ?_)
  clear hK K x xf
  refine tk 8 10 hHeld ?_
  simp only [sA, sB, sC]
  refine wr1 9 fun K hK => ?_
  have hX1 := _root_.Go.heap_setCell_same V2 w.heap.size 1 _ 34 (.slice (some ⟨V0.heap.size, 0, none⟩) l.length l.length) BX2.out
  have x := qA (i := 2) hX1 rfl
  have xf := qD (i := 2) hX1
  go_simp
  refine hK.out _ _ trivial (fun hHeld => ?_)
  clear hK K x xf hX1
  refine wpAnyH_done (by kernel_rfl) ?_ _
  refine NoPanic.normal ?_
  have hX1 := _root_.Go.heap_setCell_same V2 w.heap.size 1 _ 34 (.slice (some ⟨V0.heap.size, 0, none⟩) l.length l.length) BX2.out
  have hX2 := _root_.Go.heap_setCell_same _ w.heap.size 2 _ 34 (.slice (some ⟨V1.heap.size, 0, none⟩) sy.length sy.length) hX1
  have oth : ∀ q, q ≠ w.heap.size -> ((V2.setCell ⟨w.heap.size, 1, none⟩ (.slice (some ⟨V0.heap.size, 0, none⟩) l.length l.length)).setCell ⟨w.heap.size, 2, none⟩ (.slice (some ⟨V1.heap.size, 0, none⟩) sy.length sy.length)).heap[q]? = V2.heap[q]? := fun q hq => by rw [Below.heap_setCell _ _ _ _ (by exact hq), Below.heap_setCell _ _ _ _ (by exact hq)]
  have HX := Lib.hid hX2
  have HZ := Lib.hid ((oth (w.heap.size + 1) (by omega)).trans BZ2.out)
  have HRB := Lib.hid ((oth _ (by omega)).trans RB2.out)
  have HRS := Lib.hid ((oth _ (by omega)).trans RS.out)
  have HBE := Lib.hid ((BE2.out.setCell (p := ⟨w.heap.size, 1, none⟩) (Nat.le_refl _) (.slice (some ⟨V0.heap.size, 0, none⟩) l.length l.length)).setCell (p := ⟨w.heap.size, 2, none⟩) (Nat.le_refl _) (.slice (some ⟨V1.heap.size, 0, none⟩) sy.length sy.length))
  have hgb : w.heap.size + 1 < V0.heap.size := by omega
  have hgs : w.heap.size + 1 < V1.heap.size := by omega
  clear hX1 hX2 oth
  generalize ((V2.setCell ⟨w.heap.size, 1, none⟩ (.slice (some ⟨V0.heap.size, 0, none⟩) l.length l.length)).setCell ⟨w.heap.size, 2, none⟩ (.slice (some ⟨V1.heap.size, 0, none⟩) sy.length sy.length)) = X at *
  generalize V0.heap.size = gb at *
  generalize V1.heap.size = gs at *
  have y0 := qA (i := 0) HX.out rfl
  have y1 := qA (i := 1) HX.out rfl
  have y2 := qA (i := 2) HX.out rfl
  have z0 := qA (i := 0) HZ.out rfl
  have z1 := qA (i := 1) HZ.out rfl
  have z2 := qA (i := 2) HZ.out rfl
  have zf0 := qD (i := 0) HZ.out
  have zf1 := qD (i := 1) HZ.out
  have zf2 := qD (i := 2) HZ.out
  go_wp2
  refine bodyPost_ret (v := .agg #[.int .i64 base, .slice (some ⟨gb, 0, none⟩) l.length l.length, .slice (some ⟨gs, 0, none⟩) sy.length sy.length]) (by simp [results, Tryz.results17, go_sem, z0, z1, z2]) rfl ⟨gb, gs, rfl, ((HBE.out.setCell (by show w.heap.size <= w.heap.size + 1; omega) _).setCell (by show w.heap.size <= w.heap.size + 1; omega) _).setCell (by show w.heap.size <= w.heap.size + 1; omega) _, by omega, by omega, ?_, ?_⟩
  ·rw [Below.heap_setCell _ _ _ _ (by show gb ≠ w.heap.size + 1; omega), Below.heap_setCell _ _ _ _ (by show gb ≠ w.heap.size + 1; omega), Below.heap_setCell _ _ _ _ (by show gb ≠ w.heap.size + 1; omega)]; exact HRB.out
  ·rw [Below.heap_setCell _ _ _ _ (by show gs ≠ w.heap.size + 1; omega), Below.heap_setCell _ _ _ _ (by show gs ≠ w.heap.size + 1; omega), Below.heap_setCell _ _ _ _ (by show gs ≠ w.heap.size + 1; omega)]; exact HRS.out
theorem res_1 {fn : Func} (hr : fn.results = #[.cell 2 41]) {T : Array Value} {W : World} {g : Nat} {c : Array Value} (h2 : T.getD 2 undef = .pointer (some ⟨g, 0, none⟩)) (hg : W.heap[g]? = some (.cells c 41 (0, 0))) (hs : (Tryz.prog.info? 41).map (·.size) = some c.size) :
  (results fn T).run Tryz.prog W = .ok (.agg c) W := by
 have hl := run_loadVar_row (P := Tryz.prog) W g 41 41 c (0, 0) _ hg Tryz.underlying41 rfl hs
 have h2' : T[2]?.getD undef = .pointer (some ⟨g, 0, none⟩) := by simpa using h2
 simp [results, hr, h2', asAddr, hl]
theorem pown_any (m : Ma) (ba : Option Addr) (bc : Nat) (sy : List Sy) (s0 : Option Addr) (s2 : Nat) (ta : Option Addr) (tc : Nat) (w : World) (hB : BRd w ba m.by') (hS : qC2 w s0 sy.length (qT sy)) (hT : TRd w ta m.told) (hl : m.by'.length * 1 <= 140737488355328) (hsl : sy.length * 24 <= 140737488355328) (htl : m.told.length * 8 <= 140737488355328) :
  Calls Tryz.prog 15 #[.agg (mC m ba bc (.slice s0 sy.length s2) ta tc)] w fun e w' => ∃ gb gs gt, e = .returned (.agg (mC m (some ⟨gb, 0, none⟩) m.by'.length (.slice (some ⟨gs, 0, none⟩) sy.length sy.length) (some ⟨gt, 0, none⟩) m.told.length)) /\ Below w.heap.size w w' /\ w.heap.size <= gb /\ w.heap.size <= gs /\ gb < gt /\ gs < gt /\ w'.heap[gb]? = some (.cells (qA7 m.by').toArray 5 (0, 0)) /\ w'.heap[gs]? = some (.cells (qT sy).toArray 81 (0, 0)) /\ w'.heap[gt]? = some (.cells (qAk m.told).toArray 3 (0, 0)) := by
 obtain ⟨V, hV⟩ : ∃ V, V = (w.alloc (.cells (mC m ba bc (.slice s0 sy.length s2) ta tc) 41)).alloc (.cells #[.int .i64 0, .int .i64 0, .int .i64 0, .int .i64 0, .int .i64 0, .int .i64 0, .int .i64 0, .int .i64 0, .int .i64 0, .int .i64 0, .int .i64 0, .int .i64 0, .int .i64 0, .int .i64 0, .int .i64 0, .int .i64 0, .bool false, .int .i64 0, .int .i64 0, .int .i64 0, .slice none 0 0, .slice none 0 0, .slice none 0 0, .int .i64 0] 41) := ⟨_, rfl⟩
 have hV0 : Below w.heap.size w V := by rw [hV]; exact (qE _ _).trans ((qE _ _).mono (by simp))
 have hV1 : V.heap[w.heap.size]? = some (.cells (mC m ba bc (.slice s0 sy.length s2) ta tc) 41 (0, 0)) := by rw [hV, (qE _ _).block _ (by simp)]; exact qK _ _ _
 have hV2 : V.heap[w.heap.size + 1]? = some (.cells #[.int .i64 0, .int .i64 0, .int .i64 0, .int .i64 0, .int .i64 0, .int .i64 0, .int .i64 0, .int .i64 0, .int .i64 0, .int .i64 0, .int .i64 0, .int .i64 0, .int .i64 0, .int .i64 0, .int .i64 0, .int .i64 0, .bool false, .int .i64 0, .int .i64 0, .int .i64 0, .slice none 0 0, .slice none 0 0, .slice none 0 0, .int .i64 0] 41 (0, 0)) := by
  rw [hV]
  have := qK (w.alloc (.cells (mC m ba bc (.slice s0 sy.length s2) ta tc) 41)) #[.int .i64 0, .int .i64 0, .int .i64 0, .int .i64 0, .int .i64 0, .int .i64 0, .int .i64 0, .int .i64 0, .int .i64 0, .int .i64 0, .int .i64 0, .int .i64 0, .int .i64 0, .int .i64 0, .int .i64 0, .int .i64 0, .bool false, .int .i64 0, .int .i64 0, .int .i64 0, .slice none 0 0, .slice none 0 0, .slice none 0 0, .int .i64 0] 41
  simpa using this
 have HV := Lib.hid hV.symm
 have BX0 : Hid (V.drew.heap[w.heap.size]? = some (.cells (mC m ba bc (.slice s0 sy.length s2) ta tc) 41 (0, 0))) := hV1
 have BZ0 : Hid (V.drew.heap[w.heap.size + 1]? = some (.cells #[.int .i64 0, .int .i64 0, .int .i64 0, .int .i64 0, .int .i64 0, .int .i64 0, .int .i64 0, .int .i64 0, .int .i64 0, .int .i64 0, .int .i64 0, .int .i64 0, .int .i64 0, .int .i64 0, .int .i64 0, .int .i64 0, .bool false, .int .i64 0, .int .i64 0, .int .i64 0, .slice none 0 0, .slice none 0 0, .slice none 0 0, .int .i64 0] 41 (0, 0))) := hV2
 have BE0 := Lib.hid hV0.drew
 have HIM : Hid (∀ X, Below w.heap.size w X -> Calls Tryz.prog 17 #[.agg #[.int .i64 m.base, .slice ba m.by'.length bc, .slice s0 sy.length s2]] X fun e w' => ∃ gb gs, e = .returned (.agg #[.int .i64 m.base, .slice (some ⟨gb, 0, none⟩) m.by'.length m.by'.length, .slice (some ⟨gs, 0, none⟩) sy.length sy.length]) /\ Below X.heap.size X w' /\ X.heap.size <= gb /\ X.heap.size <= gs /\ w'.heap[gb]? = some (.cells (qA7 m.by').toArray 5 (0, 0)) /\ w'.heap[gs]? = some (.cells (qT sy).toArray 81 (0, 0))) := fun X hX => qEo m.base m.by' ba bc sy s0 s2 X (hB.next hX) (hS.below hX (Nat.le_refl _)) hl hsl
 have HOT : Hid (∀ X, Below w.heap.size w X -> Calls Tryz.prog 25 #[.slice ta m.told.length tc] X fun e w' => e = .returned (.slice (some ⟨X.heap.size, 0, none⟩) m.told.length m.told.length) /\ Below X.heap.size X w' /\ w'.heap[X.heap.size]? = some (.cells (qAk m.told).toArray 3 (0, 0))) := fun X hX => pownI m.told ta tc X (hT.next hX) htl
 clear hV hV0 hV1 hV2 hB hS hT
 go_enter Tryz.func15, Tryz.ntmps15
 go_upto_region 1 with fail
 rw [HV.out]
 clear HV
 refine wp_region_noPanic ?_
 refine wp_region_held_drew (S := fun _ => True) (by kernel_rfl) trivial (fun hHeld => ?_)
 generalize V.drew = V0 at *
 refine tk 0 3 hHeld ?_
 simp only [sA, sB, sC]
 refine tk 3 6 hHeld ?_
 simp only [sA, sB, sC]
 refine wpAnyH_ready (rs := [1, 4]) (by kernel_rfl) (by simp) ?_
 refine AllReadyH.cons rfl (fun K hK => ?_) (AllReadyH.cons rfl (fun K hK => ?_) AllReadyH.nil)
 ·have x0 := qA (i := 19) BX0.out rfl
  have x1 := qA (i := 20) BX0.out rfl
  have x2 := qA (i := 21) BX0.out rfl
  go_simp
  refine hK.out _ _ trivial (fun hHeld => ?_)
  clear hK K x0 x1 x2
  refine wpAnyH_ready (rs := [2, 4]) (by kernel_rfl) (by simp) ?_
  refine AllReadyH.cons rfl (fun K hK => ?_) (AllReadyH.cons rfl (fun K hK => ?_) AllReadyH.nil)
  ·go_simp
   refine (HIM.out V0 BE0.out).mono ?_
   rintro e V1 ⟨gb, gs, rfl, hb, hgb, hgs, hrb, hrs⟩
   have BX1 := Lib.hid ((hb.block _ (Array.getElem?_eq_some_iff.1 BX0.out).1).trans BX0.out)
   have BZ1 := Lib.hid ((hb.block _ (Array.getElem?_eq_some_iff.1 BZ0.out).1).trans BZ0.out)
   have RB1 := Lib.hid hrb
   have RS1 := Lib.hid hrs
   have BE1 := Lib.hid (BE0.out.trans (hb.mono BE0.out.size))
   have hz0 := (Array.getElem?_eq_some_iff.1 BZ0.out).1
   refine hK.out _ _ trivial (fun hHeld => ?_)
   clear hK K hb hrb hrs BX0 BZ0 BE0
   refine wr1 4 fun K hK => ?_
   have x := qA (i := 22) BX1.out rfl
   go_simp
   refine hK.out _ _ trivial (fun hHeld => ?_)
   clear hK K x
   refine tk 6 9 hHeld ?_
   simp only [sA, sB, sC]
   refine wr1 5 fun K hK => ?_
   go_simp
   refine (HOT.out V1 BE1.out).mono ?_
   rintro e V2 ⟨rfl, hb, hrow⟩
   have BX2 := Lib.hid ((hb.block _ (Array.getElem?_eq_some_iff.1 BX1.out).1).trans BX1.out)
   have BZ2 := Lib.hid ((hb.block _ (Array.getElem?_eq_some_iff.1 BZ1.out).1).trans BZ1.out)
   have RB2 := Lib.hid ((hb.block _ (Array.getElem?_eq_some_iff.1 RB1.out).1).trans RB1.out)
   have RS2 := Lib.hid ((hb.block _ (Array.getElem?_eq_some_iff.1 RS1.out).1).trans RS1.out)
   have RT := Lib.hid hrow
   have BE2 := Lib.hid (BE1.out.trans (hb.mono BE1.out.size))
   have hb1 := (Array.getElem?_eq_some_iff.1 RB1.out).1
   have hb2 := (Array.getElem?_eq_some_iff.1 RS1.out).1
   refine hK.out _ _ trivial (fun hHeld => ?_)
   clear hK K hb hrow BX1 BZ1 BE1 RB1 RS1
   refine wr1 7 fun K hK => ?_
   have x0 := qA (i := 19) BX2.out rfl
   have x1 := qA (i := 20) BX2.out rfl
   have x2 := qA (i := 21) BX2.out rfl
   have f0 := qD (i := 19) BX2.out
   have f1 := qD (i := 20) BX2.out
   have f2 := qD (i := 21) BX2.out
   go_simp
   refine hK.out _ _ trivial (fun hHeld => ?_)
   clear hK K x0 x1 x2 f0 f1 f2
   refine tk 8 10 hHeld ?_
   simp only [sA, sB, sC]
   refine wr1 9 fun K hK => ?_
   have hX1 := _root_.Go.heap_setCell_same V2 w.heap.size 19 _ 41 (.int .i64 m.base) BX2.out
   have hX2 := _root_.Go.heap_setCell_same _ w.heap.size 20 _ 41 (.slice (some ⟨gb, 0, none⟩) m.by'.length m.by'.length) hX1
   have hX3 := _root_.Go.heap_setCell_same _ w.heap.size 21 _ 41 (.slice (some ⟨gs, 0, none⟩) sy.length sy.length) hX2
   have x := qA (i := 22) hX3 rfl
   have xf := qD (i := 22) hX3
   go_simp
   refine hK.out _ _ trivial (fun hHeld => ?_)
   clear hK K x xf hX1 hX2 hX3
   refine wpAnyH_done (by kernel_rfl) ?_ _
   refine NoPanic.normal ?_
   have hX1 := _root_.Go.heap_setCell_same V2 w.heap.size 19 _ 41 (.int .i64 m.base) BX2.out
   have hX2 := _root_.Go.heap_setCell_same _ w.heap.size 20 _ 41 (.slice (some ⟨gb, 0, none⟩) m.by'.length m.by'.length) hX1
   have hX3 := _root_.Go.heap_setCell_same _ w.heap.size 21 _ 41 (.slice (some ⟨gs, 0, none⟩) sy.length sy.length) hX2
   have hX4 := _root_.Go.heap_setCell_same _ w.heap.size 22 _ 41 (.slice (some ⟨V1.heap.size, 0, none⟩) m.told.length m.told.length) hX3
   have oth : ∀ q, q ≠ w.heap.size -> ((((V2.setCell ⟨w.heap.size, 19, none⟩ (.int .i64 m.base)).setCell ⟨w.heap.size, 20, none⟩ (.slice (some ⟨gb, 0, none⟩) m.by'.length m.by'.length)).setCell ⟨w.heap.size, 21, none⟩ (.slice (some ⟨gs, 0, none⟩) sy.length sy.length)).setCell ⟨w.heap.size, 22, none⟩ (.slice (some ⟨V1.heap.size, 0, none⟩) m.told.length m.told.length)).heap[q]? = V2.heap[q]? := fun q hq => by rw [Below.heap_setCell _ _ _ _ (by exact hq), Below.heap_setCell _ _ _ _ (by exact hq), Below.heap_setCell _ _ _ _ (by exact hq), Below.heap_setCell _ _ _ _ (by exact hq)]
   have HX : Hid (((((V2.setCell ⟨w.heap.size, 19, none⟩ (.int .i64 m.base)).setCell ⟨w.heap.size, 20, none⟩ (.slice (some ⟨gb, 0, none⟩) m.by'.length m.by'.length)).setCell ⟨w.heap.size, 21, none⟩ (.slice (some ⟨gs, 0, none⟩) sy.length sy.length)).setCell ⟨w.heap.size, 22, none⟩ (.slice (some ⟨V1.heap.size, 0, none⟩) m.told.length m.told.length)).heap[w.heap.size]? = some (.cells (mC m (some ⟨gb, 0, none⟩) m.by'.length (.slice (some ⟨gs, 0, none⟩) sy.length sy.length) (some ⟨V1.heap.size, 0, none⟩) m.told.length) 41 (0, 0))) := hX4
   have HZ := Lib.hid ((oth (w.heap.size + 1) (by omega)).trans BZ2.out)
   have HRB := Lib.hid ((oth gb (by omega)).trans RB2.out)
   have HRS := Lib.hid ((oth gs (by omega)).trans RS2.out)
   have HRT := Lib.hid ((oth _ (by omega)).trans RT.out)
   have HBE := Lib.hid ((((BE2.out.setCell (p := ⟨w.heap.size, 19, none⟩) (Nat.le_refl _) (.int .i64 m.base)).setCell (p := ⟨w.heap.size, 20, none⟩) (Nat.le_refl _) (.slice (some ⟨gb, 0, none⟩) m.by'.length m.by'.length)).setCell (p := ⟨w.heap.size, 21, none⟩) (Nat.le_refl _) (.slice (some ⟨gs, 0, none⟩) sy.length sy.length)).setCell (p := ⟨w.heap.size, 22, none⟩) (Nat.le_refl _) (.slice (some ⟨V1.heap.size, 0, none⟩) m.told.length m.told.length))
   clear hX1 hX2 hX3 hX4 oth
   generalize ((((V2.setCell ⟨w.heap.size, 19, none⟩ (.int .i64 m.base)).setCell ⟨w.heap.size, 20, none⟩ (.slice (some ⟨gb, 0, none⟩) m.by'.length m.by'.length)).setCell ⟨w.heap.size, 21, none⟩ (.slice (some ⟨gs, 0, none⟩) sy.length sy.length)).setCell ⟨w.heap.size, 22, none⟩ (.slice (some ⟨V1.heap.size, 0, none⟩) m.told.length m.told.length)) = X at *
   generalize V1.heap.size = gt at *
   go_wp2_with (first | (refine wpList_load_row rfl 41 _ rfl w.heap.size rfl 41 (mC m (some ⟨gb, 0, none⟩) m.by'.length (.slice (some ⟨gs, 0, none⟩) sy.length sy.length) (some ⟨gt, 0, none⟩) m.told.length) (0, 0) _ HX.out Tryz.underlying41 rfl (qBg _ _ _ _ _ _) ?_) | (refine wpList_store_row rfl 41 _ _ rfl (w.heap.size + 1) (mC m (some ⟨gb, 0, none⟩) m.by'.length (.slice (some ⟨gs, 0, none⟩) sy.length sy.length) (some ⟨gt, 0, none⟩) m.told.length) rfl rfl 41 #[.int .i64 0, .int .i64 0, .int .i64 0, .int .i64 0, .int .i64 0, .int .i64 0, .int .i64 0, .int .i64 0, .int .i64 0, .int .i64 0, .int .i64 0, .int .i64 0, .int .i64 0, .int .i64 0, .int .i64 0, .int .i64 0, .bool false, .int .i64 0, .int .i64 0, .int .i64 0, .slice none 0 0, .slice none 0 0, .slice none 0 0, .int .i64 0] HZ.out (qBg _ _ _ _ _ _) rfl (mAll _ _ _ _ _ _ _ _) ?_) | fail)
   refine bodyPost_ret (v := .agg (mC m (some ⟨gb, 0, none⟩) m.by'.length (.slice (some ⟨gs, 0, none⟩) sy.length sy.length) (some ⟨gt, 0, none⟩) m.told.length)) (res_1 Tryz.results15 rfl (setRow_heap _ _ _ _ _ _ HZ.out) (qBg _ _ _ _ _ _)) rfl ⟨gb, gs, gt, rfl, below_setRow HBE.out (by omega) _, by omega, by omega, by omega, by omega, ?_, ?_, ?_⟩
   ·rw [setRow_other _ _ _ _ (by omega)]; exact HRB.out
   ·rw [setRow_other _ _ _ _ (by omega)]; exact HRS.out
   ·rw [setRow_other _ _ _ _ (by omega)]; exact HRT.out
  ·have x := qA (i := 22) BX0.out rfl
   go_simp
   refine hK.out _ _ trivial (fun hHeld => ?_)
   clear hK K x
   refine wr1 2 fun K hK => ?_
   go_simp
   refine (HIM.out V0 BE0.out).mono ?_
   rintro e V1 ⟨gb, gs, rfl, hb, hgb, hgs, hrb, hrs⟩
   have BX1 := Lib.hid ((hb.block _ (Array.getElem?_eq_some_iff.1 BX0.out).1).trans BX0.out)
   have BZ1 := Lib.hid ((hb.block _ (Array.getElem?_eq_some_iff.1 BZ0.out).1).trans BZ0.out)
   have RB1 := Lib.hid hrb
   have RS1 := Lib.hid hrs
   have BE1 := Lib.hid (BE0.out.trans (hb.mono BE0.out.size))
   have hz0 := (Array.getElem?_eq_some_iff.1 BZ0.out).1
   refine hK.out _ _ trivial (fun hHeld => ?_)
   clear hK K hb hrb hrs BX0 BZ0 BE0
   refine tk 6 9 hHeld ?_
   simp only [sA, sB, sC]
   refine wr1 5 fun K hK => ?_
   go_simp
   refine (HOT.out V1 BE1.out).mono ?_
   rintro e V2 ⟨rfl, hb, hrow⟩
   have BX2 := Lib.hid ((hb.block _ (Array.getElem?_eq_some_iff.1 BX1.out).1).trans BX1.out)
   have BZ2 := Lib.hid ((hb.block _ (Array.getElem?_eq_some_iff.1 BZ1.out).1).trans BZ1.out)
   have RB2 := Lib.hid ((hb.block _ (Array.getElem?_eq_some_iff.1 RB1.out).1).trans RB1.out)
   have RS2 := Lib.hid ((hb.block _ (Array.getElem?_eq_some_iff.1 RS1.out).1).trans RS1.out)
   have RT := Lib.hid hrow
   have BE2 := Lib.hid (BE1.out.trans (hb.mono BE1.out.size))
   have hb1 := (Array.getElem?_eq_some_iff.1 RB1.out).1
   have hb2 := (Array.getElem?_eq_some_iff.1 RS1.out).1
   refine hK.out _ _ trivial (fun hHeld => ?_)
   clear hK K hb hrow BX1 BZ1 BE1 RB1 RS1
   refine wr1 7 fun K hK => ?_
   have x0 := qA (i := 19) BX2.out rfl
   have x1 := qA (i := 20) BX2.out rfl
   have x2 := qA (i := 21) BX2.out rfl
   have f0 := qD (i := 19) BX2.out
   have f1 := qD (i := 20) BX2.out
   have f2 := qD (i := 21) BX2.out
   go_simp
   refine hK.out _ _ trivial (fun hHeld => ?_)
   clear hK K x0 x1 x2 f0 f1 f2
   refine tk 8 10 hHeld ?_
   simp only [sA, sB, sC]
   refine wr1 9 fun K hK => ?_
   have hX1 := _root_.Go.heap_setCell_same V2 w.heap.size 19 _ 41 (.int .i64 m.base) BX2.out
   have hX2 := _root_.Go.heap_setCell_same _ w.heap.size 20 _ 41 (.slice (some ⟨gb, 0, none⟩) m.by'.length m.by'.length) hX1
   have hX3 := _root_.Go.heap_setCell_same _ w.heap.size 21 _ 41 (.slice (some ⟨gs, 0, none⟩) sy.length sy.length) hX2
   have x := qA (i := 22) hX3 rfl
   have xf := qD (i := 22) hX3
   go_simp
   refine hK.out _ _ trivial (fun hHeld => ?_)
   clear hK K x xf hX1 hX2 hX3
   refine wpAnyH_done (by kernel_rfl) ?_ _
   refine NoPanic.normal ?_
   have hX1 := _root_.Go.heap_setCell_same V2 w.heap.size 19 _ 41 (.int .i64 m.base) BX2.out
   have hX2 := _root_.Go.heap_setCell_same _ w.heap.size 20 _ 41 (.slice (some ⟨gb, 0, none⟩) m.by'.length m.by'.length) hX1
   have hX3 := _root_.Go.heap_setCell_same _ w.heap.size 21 _ 41 (.slice (some ⟨gs, 0, none⟩) sy.length sy.length) hX2
   have hX4 := _root_.Go.heap_setCell_same _ w.heap.size 22 _ 41 (.slice (some ⟨V1.heap.size, 0, none⟩) m.told.length m.told.length) hX3
   have oth : ∀ q, q ≠ w.heap.size -> ((((V2.setCell ⟨w.heap.size, 19, none⟩ (.int .i64 m.base)).setCell ⟨w.heap.size, 20, none⟩ (.slice (some ⟨gb, 0, none⟩) m.by'.length m.by'.length)).setCell ⟨w.heap.size, 21, none⟩ (.slice (some ⟨gs, 0, none⟩) sy.length sy.length)).setCell ⟨w.heap.size, 22, none⟩ (.slice (some ⟨V1.heap.size, 0, none⟩) m.told.length m.told.length)).heap[q]? = V2.heap[q]? := fun q hq => by rw [Below.heap_setCell _ _ _ _ (by exact hq), Below.heap_setCell _ _ _ _ (by exact hq), Below.heap_setCell _ _ _ _ (by exact hq), Below.heap_setCell _ _ _ _ (by exact hq)]
   have HX : Hid (((((V2.setCell ⟨w.heap.size, 19, none⟩ (.int .i64 m.base)).setCell ⟨w.heap.size, 20, none⟩ (.slice (some ⟨gb, 0, none⟩) m.by'.length m.by'.length)).setCell ⟨w.heap.size, 21, none⟩ (.slice (some ⟨gs, 0, none⟩) sy.length sy.length)).setCell ⟨w.heap.size, 22, none⟩ (.slice (some ⟨V1.heap.size, 0, none⟩) m.told.length m.told.length)).heap[w.heap.size]? = some (.cells (mC m (some ⟨gb, 0, none⟩) m.by'.length (.slice (some ⟨gs, 0, none⟩) sy.length sy.length) (some ⟨V1.heap.size, 0, none⟩) m.told.length) 41 (0, 0))) := hX4
   have HZ := Lib.hid ((oth (w.heap.size + 1) (by omega)).trans BZ2.out)
   have HRB := Lib.hid ((oth gb (by omega)).trans RB2.out)
   have HRS := Lib.hid ((oth gs (by omega)).trans RS2.out)
   have HRT := Lib.hid ((oth _ (by omega)).trans RT.out)
   have HBE := Lib.hid ((((BE2.out.setCell (p := ⟨w.heap.size, 19, none⟩) (Nat.le_refl _) (.int .i64 m.base)).setCell (p := ⟨w.heap.size, 20, none⟩) (Nat.le_refl _) (.slice (some ⟨gb, 0, none⟩) m.by'.length m.by'.length)).setCell (p := ⟨w.heap.size, 21, none⟩) (Nat.le_refl _) (.slice (some ⟨gs, 0, none⟩) sy.length sy.length)).setCell (p := ⟨w.heap.size, 22, none⟩) (Nat.le_refl _) (.slice (some ⟨V1.heap.size, 0, none⟩) m.told.length m.told.length))
   clear hX1 hX2 hX3 hX4 oth
   generalize ((((V2.setCell ⟨w.heap.size, 19, none⟩ (.int .i64 m.base)).setCell ⟨w.heap.size, 20, none⟩ (.slice (some ⟨gb, 0, none⟩) m.by'.length m.by'.length)).setCell ⟨w.heap.size, 21, none⟩ (.slice (some ⟨gs, 0, none⟩) sy.length sy.length)).setCell ⟨w.heap.size, 22, none⟩ (.slice (some ⟨V1.heap.size, 0, none⟩) m.told.length m.told.length)) = X at *
   generalize V1.heap.size = gt at *
   go_wp2_with (first | (refine wpList_load_row rfl 41 _ rfl w.heap.size rfl 41 (mC m (some ⟨gb, 0, none⟩) m.by'.length (.slice (some ⟨gs, 0, none⟩) sy.length sy.length) (some ⟨gt, 0, none⟩) m.told.length) (0, 0) _ HX.out Tryz.underlying41 rfl (qBg _ _ _ _ _ _) ?_) | (refine wpList_store_row rfl 41 _ _ rfl (w.heap.size + 1) (mC m (some ⟨gb, 0, none⟩) m.by'.length (.slice (some ⟨gs, 0, none⟩) sy.length sy.length) (some ⟨gt, 0, none⟩) m.told.length) rfl rfl 41 #[.int .i64 0, .int .i64 0, .int .i64 0, .int .i64 0, .int .i64 0, .int .i64 0, .int .i64 0, .int .i64 0, .int .i64 0, .int .i64 0, .int .i64 0, .int .i64 0, .int .i64 0, .int .i64 0, .int .i64 0, .int .i64 0, .bool false, .int .i64 0, .int .i64 0, .int .i64 0, .slice none 0 0, .slice none 0 0, .slice none 0 0, .int .i64 0] HZ.out (qBg _ _ _ _ _ _) rfl (mAll _ _ _ _ _ _ _ _) ?_) | fail)
   refine bodyPost_ret (v := .agg (mC m (some ⟨gb, 0, none⟩) m.by'.length (.slice (some ⟨gs, 0, none⟩) sy.length sy.length) (some ⟨gt, 0, none⟩) m.told.length)) (res_1 Tryz.results15 rfl (setRow_heap _ _ _ _ _ _ HZ.out) (qBg _ _ _ _ _ _)) rfl ⟨gb, gs, gt, rfl, below_setRow HBE.out (by omega) _, by omega, by omega, by omega, by omega, ?_, ?_, ?_⟩
   ·rw [setRow_other _ _ _ _ (by omega)]; exact HRB.out
   ·rw [setRow_other _ _ _ _ (by omega)]; exact HRS.out
   ·rw [setRow_other _ _ _ _ (by omega)]; exact HRT.out
 ·have x := qA (i := 22) BX0.out rfl
  go_simp
  refine hK.out _ _ trivial (fun hHeld => ?_)
  clear hK K x
  refine wr1 1 fun K hK => ?_
  have x0 := qA (i := 19) BX0.out rfl
  have x1 := qA (i := 20) BX0.out rfl
  have x2 := qA (i := 21) BX0.out rfl
  go_simp
  refine hK.out _ _ trivial (fun hHeld => ?_)
  clear hK K x0 x1 x2
  refine wr1 2 fun K hK => ?_
  go_simp
  refine (HIM.out V0 BE0.out).mono ?_
  rintro e V1 ⟨gb, gs, rfl, hb, hgb, hgs, hrb, hrs⟩
  have BX1 := Lib.hid ((hb.block _ (Array.getElem?_eq_some_iff.1 BX0.out).1).trans BX0.out)
  have BZ1 := Lib.hid ((hb.block _ (Array.getElem?_eq_some_iff.1 BZ0.out).1).trans BZ0.out)
  have RB1 := Lib.hid hrb
  have RS1 := Lib.hid hrs
  have BE1 := Lib.hid (BE0.out.trans (hb.mono BE0.out.size))
  have hz0 := (Array.getElem?_eq_some_iff.1 BZ0.out).1
  refine hK.out _ _ trivial (fun hHeld => ?_)
  clear hK K hb hrb hrs BX0 BZ0 BE0
  refine tk 6 9 hHeld ?_
  simp only [sA, sB, sC]
  refine wr1 5 fun K hK => ?_
  go_simp
  refine (HOT.out V1 BE1.out).mono ?_
  rintro e V2 ⟨rfl, hb, hrow⟩
  have BX2 := Lib.hid ((hb.block _ (Array.getElem?_eq_some_iff.1 BX1.out).1).trans BX1.out)
  have BZ2 := Lib.hid ((hb.block _ (Array.getElem?_eq_some_iff.1 BZ1.out).1).trans BZ1.out)
  have RB2 := Lib.hid ((hb.block _ (Array.getElem?_eq_some_iff.1 RB1.out).1).trans RB1.out)
  have RS2 := Lib.hid ((hb.block _ (Array.getElem?_eq_some_iff.1 RS1.out).1).trans RS1.out)
  have RT := Lib.hid hrow
  have BE2 := Lib.hid (BE1.out.trans (hb.mono BE1.out.size))
  have hb1 := (Array.getElem?_eq_some_iff.1 RB1.out).1
  have hb2 := (Array.getElem?_eq_some_iff.1 RS1.out).1
  refine hK.out _ _ trivial (fun hHeld => ?_)
  clear hK K hb hrow BX1 BZ1 BE1 RB1 RS1
  refine wr1 7 fun K hK => ?_
  have x0 := qA (i := 19) BX2.out rfl
  have x1 := qA (i := 20) BX2.out rfl
  have x2 := qA (i := 21) BX2.out rfl
  have f0 := qD (i := 19) BX2.out
  have f1 := qD (i := 20) BX2.out
  have f2 := qD (i := 21) BX2.out
  go_simp
  refine hK.out _ _ trivial (fun hHeld => ?_)
  clear hK K x0 x1 x2 f0 f1 f2
  refine tk 8 10 hHeld ?_
  simp only [sA, sB, sC]
  refine wr1 9 fun K hK => ?_
  have hX1 := _root_.Go.heap_setCell_same V2 w.heap.size 19 _ 41 (.int .i64 m.base) BX2.out
  have hX2 := _root_.Go.heap_setCell_same _ w.heap.size 20 _ 41 (.slice (some ⟨gb, 0, none⟩) m.by'.length m.by'.length) hX1
  have hX3 := _root_.Go.heap_setCell_same _ w.heap.size 21 _ 41 (.slice (some ⟨gs, 0, none⟩) sy.length sy.length) hX2
  have x := qA (i := 22) hX3 rfl
  have xf := qD (i := 22) hX3
  go_simp
  refine hK.out _ _ trivial (fun hHeld => ?_)
  clear hK K x xf hX1 hX2 hX3
  refine wpAnyH_done (by kernel_rfl) ?_ _
  refine NoPanic.normal ?_
  have hX1 := _root_.Go.heap_setCell_same V2 w.heap.size 19 _ 41 (.int .i64 m.base) BX2.out
  have hX2 := _root_.Go.heap_setCell_same _ w.heap.size 20 _ 41 (.slice (some ⟨gb, 0, none⟩) m.by'.length m.by'.length) hX1
  have hX3 := _root_.Go.heap_setCell_same _ w.heap.size 21 _ 41 (.slice (some ⟨gs, 0, none⟩) sy.length sy.length) hX2
  have hX4 := _root_.Go.heap_setCell_same _ w.heap.size 22 _ 41 (.slice (some ⟨V1.heap.size, 0, none⟩) m.told.length m.told.length) hX3
  have oth : ∀ q, q ≠ w.heap.size -> ((((V2.setCell ⟨w.heap.size, 19, none⟩ (.int .i64 m.base)).setCell ⟨w.heap.size, 20, none⟩ (.slice (some ⟨gb, 0, none⟩) m.by'.length m.by'.length)).setCell ⟨w.heap.size, 21, none⟩ (.slice (some ⟨gs, 0, none⟩) sy.length sy.length)).setCell ⟨w.heap.size, 22, none⟩ (.slice (some ⟨V1.heap.size, 0, none⟩) m.told.length m.told.length)).heap[q]? = V2.heap[q]? := fun q hq => by rw [Below.heap_setCell _ _ _ _ (by exact hq), Below.heap_setCell _ _ _ _ (by exact hq), Below.heap_setCell _ _ _ _ (by exact hq), Below.heap_setCell _ _ _ _ (by exact hq)]
  have HX : Hid (((((V2.setCell ⟨w.heap.size, 19, none⟩ (.int .i64 m.base)).setCell ⟨w.heap.size, 20, none⟩ (.slice (some ⟨gb, 0, none⟩) m.by'.length m.by'.length)).setCell ⟨w.heap.size, 21, none⟩ (.slice (some ⟨gs, 0, none⟩) sy.length sy.length)).setCell ⟨w.heap.size, 22, none⟩ (.slice (some ⟨V1.heap.size, 0, none⟩) m.told.length m.told.length)).heap[w.heap.size]? = some (.cells (mC m (some ⟨gb, 0, none⟩) m.by'.length (.slice (some ⟨gs, 0, none⟩) sy.length sy.length) (some ⟨V1.heap.size, 0, none⟩) m.told.length) 41 (0, 0))) := hX4
  have HZ := Lib.hid ((oth (w.heap.size + 1) (by omega)).trans BZ2.out)
  have HRB := Lib.hid ((oth gb (by omega)).trans RB2.out)
  have HRS := Lib.hid ((oth gs (by omega)).trans RS2.out)
  have HRT := Lib.hid ((oth _ (by omega)).trans RT.out)
  have HBE := Lib.hid ((((BE2.out.setCell (p := ⟨w.heap.size, 19, none⟩) (Nat.le_refl _) (.int .i64 m.base)).setCell (p := ⟨w.heap.size, 20, none⟩) (Nat.le_refl _) (.slice (some ⟨gb, 0, none⟩) m.by'.length m.by'.length)).setCell (p := ⟨w.heap.size, 21, none⟩) (Nat.le_refl _) (.slice (some ⟨gs, 0, none⟩) sy.length sy.length)).setCell (p := ⟨w.heap.size, 22, none⟩) (Nat.le_refl _) (.slice (some ⟨V1.heap.size, 0, none⟩) m.told.length m.told.length))
  clear hX1 hX2 hX3 hX4 oth
  generalize ((((V2.setCell ⟨w.heap.size, 19, none⟩ (.int .i64 m.base)).setCell ⟨w.heap.size, 20, none⟩ (.slice (some ⟨gb, 0, none⟩) m.by'.length m.by'.length)).setCell ⟨w.heap.size, 21, none⟩ (.slice (some ⟨gs, 0, none⟩) sy.length sy.length)).setCell ⟨w.heap.size, 22, none⟩ (.slice (some ⟨V1.heap.size, 0, none⟩) m.told.length m.told.length)) = X at *
  generalize V1.heap.size = gt at *
  go_wp2_with (first | (refine wpList_load_row rfl 41 _ rfl w.heap.size rfl 41 (mC m (some ⟨gb, 0, none⟩) m.by'.length (.slice (some ⟨gs, 0, none⟩) sy.length sy.length) (some ⟨gt, 0, none⟩) m.told.length) (0, 0) _ HX.out Tryz.underlying41 rfl (qBg _ _ _ _ _ _) ?_) | (refine wpList_store_row rfl 41 _ _ rfl (w.heap.size + 1) (mC m (some ⟨gb, 0, none⟩) m.by'.length (.slice (some ⟨gs, 0, none⟩) sy.length sy.length) (some ⟨gt, 0, none⟩) m.told.length) rfl rfl 41 #[.int .i64 0, .int .i64 0, .int .i64 0, .int .i64 0, .int .i64 0, .int .i64 0, .int .i64 0, .int .i64 0, .int .i64 0, .int .i64 0, .int .i64 0, .int .i64 0, .int .i64 0, .int .i64 0, .int .i64 0, .int .i64 0, .bool false, .int .i64 0, .int .i64 0, .int .i64 0, .slice none 0 0, .slice none 0 0, .slice none 0 0, .int .i64 0] HZ.out (qBg _ _ _ _ _ _) rfl (mAll _ _ _ _ _ _ _ _) ?_) | fail)
  refine bodyPost_ret (v := .agg (mC m (some ⟨gb, 0, none⟩) m.by'.length (.slice (some ⟨gs, 0, none⟩) sy.length sy.length) (some ⟨gt, 0, none⟩) m.told.length)) (res_1 Tryz.results15 rfl (setRow_heap _ _ _ _ _ _ HZ.out) (qBg _ _ _ _ _ _)) rfl ⟨gb, gs, gt, rfl, below_setRow HBE.out (by omega) _, by omega, by omega, by omega, by omega, ?_, ?_, ?_⟩
  ·rw [setRow_other _ _ _ _ (by omega)]; exact HRB.out
  ·rw [setRow_other _ _ _ _ (by omega)]; exact HRS.out
  ·rw [setRow_other _ _ _ _ (by omega)]; exact HRT.out
end Go.Proofs.YtgjmbjahgcndnaaGreatDoor.Si
