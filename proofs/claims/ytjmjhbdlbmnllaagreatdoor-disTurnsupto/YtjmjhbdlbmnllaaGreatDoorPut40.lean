/- asm: an instruction that leads, made; a value of a pool asked for. asm: instructions kept. asm: numbers of .word kept. asm: a label kept. -/
import Derived.Test.YtjmjhbdlbmnllaaGreatDoorPut34
import Derived.Test.YtjmjhbdlbmnllaaGreatDoorPut39
import Derived.Test.YtjmjhbdlbmnllaaGreatDoorPut35
namespace Go.Proofs.YtjmjhbdlbmnllaaGreatDoor
open Go.RowKit

theorem var6_of {w : World} {R : Nat} {a b c d e f : Value} {t : TypeId} (h : w.heap[R]? = some (.cells #[a, b, c, d, e, f] t (0, 0))) : ((w.cell? ⟨R, 0, none⟩ = some a ∧ w.cell? ⟨R, 1, none⟩ = some b ∧ w.cell? ⟨R, 2, none⟩ = some c) ∧ (w.cell? ⟨R, 3, none⟩ = some d ∧ w.cell? ⟨R, 4, none⟩ = some e ∧ w.cell? ⟨R, 5, none⟩ = some f)) ∧ (w.frozen? ⟨R, 0, none⟩ = false ∧ w.frozen? ⟨R, 1, none⟩ = false ∧ w.frozen? ⟨R, 2, none⟩ = false) ∧ w.frozen? ⟨R, 3, none⟩ = false ∧ w.frozen? ⟨R, 4, none⟩ = false ∧ w.frozen? ⟨R, 5, none⟩ = false := by
  refine ⟨⟨⟨?_, ?_, ?_⟩, ?_, ?_, ?_⟩, ⟨?_, ?_, ?_⟩, ?_, ?_, ?_⟩ <;> simp [World.cell?, World.frozen?, h]

set_option maxHeartbeats 2000000 in
theorem leading_any (gu : Nat) (op n m imm : Int) (fn : Fn) (fa fc : Array Value) (w : World) (hL : Isa.Laid w) :
    Calls Tryz.prog 145 #[.pointer (some ⟨gu, 0, none⟩), .agg #[.int .i64 op, .int .i64 n, .int .i64 m, .int .i64 imm], .func fn fa fc] w fun r w' =>
      (∃ gt gi, r = .returned (itV 0 2 1 2 (if Isa.infoShape op = 4 then .func (.func 178) #[] #[.pointer (some ⟨gt, 0, none⟩)] else .nilFunc) (.func (.func 174) #[] #[.pointer (some ⟨gt, 0, none⟩), .pointer (some ⟨gi, 0, none⟩)]))
        ∧ w'.heap[gt]? = some (.cells #[.func fn fa fc] 230 (0, 0)) ∧ w'.heap[gi]? = some (.cells #[.int .i64 op, .int .i64 n, .int .i64 m, .int .i64 imm] 39 (0, 0))) ∧ Below w.heap.size w w' := by
  have HI := Lib.hid fun W (hb : Below w.heap.size w W) => Isa.info_any op W (hL.below hb hL.sz)
  generalize Isa.infoShape op = sh at *
  generalize Isa.infoName op = nm at *
  clear hL
  unfold itV
  by_cases h4 : sh = 4
  · subst h4
    simp only [↓reduceIte]
    go_enter Tryz.func145, Tryz.ntmps145
    go_wp2_with fail
    refine (HI.out _ (by go_grown)).mono ?_
    rintro e w1 ⟨rfl, hb1⟩
    have xi : w1.heap[w.heap.size]? = some (.cells #[.int .i64 op, .int .i64 n, .int .i64 m, .int .i64 imm] 39 (0, 0)) := by
      rw [hb1.block _ (by go_size), old2 _ _ (by go_size), old2 _ _ (by go_size), old2 _ _ (by go_size)]; exact new_at _ _ rfl
    have xt : w1.heap[w.heap.size + 1]? = some (.cells #[.func fn fa fc] 230 (0, 0)) := by
      rw [hb1.block _ (by go_size), old2 _ _ (by go_size), old2 _ _ (by go_size)]; exact new_at _ _ (by go_size)
    have xr : w1.heap[w.heap.size + 1 + 1]? = some (.cells #[.int .i64 0, .int .i64 0, .int .i64 0, .int .i64 0, .nilFunc, .nilFunc] 140 (0, 0)) := by
      rw [hb1.block _ (by go_size), old2 _ _ (by go_size)]; exact new_at _ _ (by go_size)
    have xx : w1.heap[w.heap.size + 1 + 1 + 1]? = some (.cells #[.int .i64 0, .int .i64 2, .int .i64 1, .int .i64 2, .nilFunc, .func (.func 174) #[] #[.pointer (some ⟨w.heap.size + 1, 0, none⟩), .pointer (some ⟨w.heap.size, 0, none⟩)]] 140 (0, 0)) := by
      rw [hb1.block _ (by go_size)]; exact new_at _ _ (by go_size)
    have HB1 : Hid (Below w.heap.size w w1) := Below.trans (by go_grown) (hb1.mono (by go_size))
    obtain ⟨⟨⟨a0, a1, a2⟩, a3, a4, a5⟩, ⟨e0, e1, e2⟩, e3, e4, e5⟩ := var6_of xr
    obtain ⟨⟨⟨b0, b1, b2⟩, b3, b4, b5⟩, ⟨g0, g1, g2⟩, g3, g4, g5⟩ := var6_of xx
    have hz := blk_lt xx
    have XI := Lib.hid xi
    have XT := Lib.hid xt
    clear hb1 xi xt xr xx HI
    go_wp2_with fail
    refine bodyPost_ret (v := .agg #[.int .i64 0, .int .i64 2, .int .i64 1, .int .i64 2, .func (.func 178) #[] #[.pointer (some ⟨w.heap.size + 1, 0, none⟩)], .func (.func 174) #[] #[.pointer (some ⟨w.heap.size + 1, 0, none⟩), .pointer (some ⟨w.heap.size, 0, none⟩)]]) (by simp [results, Tryz.results145, go_sem, a0, a1, a2, a3, a4, a5]) rfl ⟨⟨w.heap.size + 1, w.heap.size, rfl, ?_, ?_⟩, ?_⟩
    · rw [Below.heap_setCell _ _ _ _ (by show w.heap.size + 1 ≠ w.heap.size + 1 + 1; omega), Below.heap_setCell _ _ _ _ (by show w.heap.size + 1 ≠ w.heap.size + 1 + 1; omega), Below.heap_setCell _ _ _ _ (by show w.heap.size + 1 ≠ w.heap.size + 1 + 1; omega), Below.heap_setCell _ _ _ _ (by show w.heap.size + 1 ≠ w.heap.size + 1 + 1; omega), Below.heap_setCell _ _ _ _ (by show w.heap.size + 1 ≠ w.heap.size + 1 + 1; omega), Below.heap_setCell _ _ _ _ (by show w.heap.size + 1 ≠ w.heap.size + 1 + 1; omega), Below.heap_setCell _ _ _ _ (by show w.heap.size + 1 ≠ w.heap.size + 1 + 1 + 1; omega)]
      exact XT.out
    · rw [Below.heap_setCell _ _ _ _ (by show w.heap.size ≠ w.heap.size + 1 + 1; omega), Below.heap_setCell _ _ _ _ (by show w.heap.size ≠ w.heap.size + 1 + 1; omega), Below.heap_setCell _ _ _ _ (by show w.heap.size ≠ w.heap.size + 1 + 1; omega), Below.heap_setCell _ _ _ _ (by show w.heap.size ≠ w.heap.size + 1 + 1; omega), Below.heap_setCell _ _ _ _ (by show w.heap.size ≠ w.heap.size + 1 + 1; omega), Below.heap_setCell _ _ _ _ (by show w.heap.size ≠ w.heap.size + 1 + 1; omega), Below.heap_setCell _ _ _ _ (by show w.heap.size ≠ w.heap.size + 1 + 1 + 1; omega)]
      exact XI.out
    · exact (((((((HB1.out.setCell (p := ⟨w.heap.size + 1 + 1 + 1, 4, none⟩) (by show w.heap.size ≤ w.heap.size + 1 + 1 + 1; omega) _).setCell (p := ⟨w.heap.size + 1 + 1, 0, none⟩) (by show w.heap.size ≤ w.heap.size + 1 + 1; omega) _).setCell (p := ⟨w.heap.size + 1 + 1, 1, none⟩) (by show w.heap.size ≤ w.heap.size + 1 + 1; omega) _).setCell (p := ⟨w.heap.size + 1 + 1, 2, none⟩) (by show w.heap.size ≤ w.heap.size + 1 + 1; omega) _).setCell (p := ⟨w.heap.size + 1 + 1, 3, none⟩) (by show w.heap.size ≤ w.heap.size + 1 + 1; omega) _).setCell (p := ⟨w.heap.size + 1 + 1, 4, none⟩) (by show w.heap.size ≤ w.heap.size + 1 + 1; omega) _).setCell (p := ⟨w.heap.size + 1 + 1, 5, none⟩) (by show w.heap.size ≤ w.heap.size + 1 + 1; omega) _)
  · simp only [h4, ↓reduceIte]
    have h4' : (sh == 4) = false := beq_eq_false_iff_ne.2 h4
    go_enter Tryz.func145, Tryz.ntmps145
    go_wp2_with fail
    refine (HI.out _ (by go_grown)).mono ?_
    rintro e w1 ⟨rfl, hb1⟩
    have xi : w1.heap[w.heap.size]? = some (.cells #[.int .i64 op, .int .i64 n, .int .i64 m, .int .i64 imm] 39 (0, 0)) := by
      rw [hb1.block _ (by go_size), old2 _ _ (by go_size), old2 _ _ (by go_size), old2 _ _ (by go_size)]; exact new_at _ _ rfl
    have xt : w1.heap[w.heap.size + 1]? = some (.cells #[.func fn fa fc] 230 (0, 0)) := by
      rw [hb1.block _ (by go_size), old2 _ _ (by go_size), old2 _ _ (by go_size)]; exact new_at _ _ (by go_size)
    have xr : w1.heap[w.heap.size + 1 + 1]? = some (.cells #[.int .i64 0, .int .i64 0, .int .i64 0, .int .i64 0, .nilFunc, .nilFunc] 140 (0, 0)) := by
      rw [hb1.block _ (by go_size), old2 _ _ (by go_size)]; exact new_at _ _ (by go_size)
    have xx : w1.heap[w.heap.size + 1 + 1 + 1]? = some (.cells #[.int .i64 0, .int .i64 2, .int .i64 1, .int .i64 2, .nilFunc, .func (.func 174) #[] #[.pointer (some ⟨w.heap.size + 1, 0, none⟩), .pointer (some ⟨w.heap.size, 0, none⟩)]] 140 (0, 0)) := by
      rw [hb1.block _ (by go_size)]; exact new_at _ _ (by go_size)
    have HB1 : Hid (Below w.heap.size w w1) := Below.trans (by go_grown) (hb1.mono (by go_size))
    obtain ⟨⟨⟨a0, a1, a2⟩, a3, a4, a5⟩, ⟨e0, e1, e2⟩, e3, e4, e5⟩ := var6_of xr
    obtain ⟨⟨⟨b0, b1, b2⟩, b3, b4, b5⟩, ⟨g0, g1, g2⟩, g3, g4, g5⟩ := var6_of xx
    have hz := blk_lt xx
    have XI := Lib.hid xi
    have XT := Lib.hid xt
    clear hb1 xi xt xr xx HI
    go_wp2_with fail
    refine bodyPost_ret (v := .agg #[.int .i64 0, .int .i64 2, .int .i64 1, .int .i64 2, .nilFunc, .func (.func 174) #[] #[.pointer (some ⟨w.heap.size + 1, 0, none⟩), .pointer (some ⟨w.heap.size, 0, none⟩)]]) (by simp [results, Tryz.results145, go_sem, a0, a1, a2, a3, a4, a5]) rfl ⟨⟨w.heap.size + 1, w.heap.size, rfl, ?_, ?_⟩, ?_⟩
    · rw [Below.heap_setCell _ _ _ _ (by show w.heap.size + 1 ≠ w.heap.size + 1 + 1; omega), Below.heap_setCell _ _ _ _ (by show w.heap.size + 1 ≠ w.heap.size + 1 + 1; omega), Below.heap_setCell _ _ _ _ (by show w.heap.size + 1 ≠ w.heap.size + 1 + 1; omega), Below.heap_setCell _ _ _ _ (by show w.heap.size + 1 ≠ w.heap.size + 1 + 1; omega), Below.heap_setCell _ _ _ _ (by show w.heap.size + 1 ≠ w.heap.size + 1 + 1; omega), Below.heap_setCell _ _ _ _ (by show w.heap.size + 1 ≠ w.heap.size + 1 + 1; omega)]
      exact XT.out
    · rw [Below.heap_setCell _ _ _ _ (by show w.heap.size ≠ w.heap.size + 1 + 1; omega), Below.heap_setCell _ _ _ _ (by show w.heap.size ≠ w.heap.size + 1 + 1; omega), Below.heap_setCell _ _ _ _ (by show w.heap.size ≠ w.heap.size + 1 + 1; omega), Below.heap_setCell _ _ _ _ (by show w.heap.size ≠ w.heap.size + 1 + 1; omega), Below.heap_setCell _ _ _ _ (by show w.heap.size ≠ w.heap.size + 1 + 1; omega), Below.heap_setCell _ _ _ _ (by show w.heap.size ≠ w.heap.size + 1 + 1; omega)]
      exact XI.out
    · exact ((((((HB1.out.setCell (p := ⟨w.heap.size + 1 + 1, 0, none⟩) (by show w.heap.size ≤ w.heap.size + 1 + 1; omega) _).setCell (p := ⟨w.heap.size + 1 + 1, 1, none⟩) (by show w.heap.size ≤ w.heap.size + 1 + 1; omega) _).setCell (p := ⟨w.heap.size + 1 + 1, 2, none⟩) (by show w.heap.size ≤ w.heap.size + 1 + 1; omega) _).setCell (p := ⟨w.heap.size + 1 + 1, 3, none⟩) (by show w.heap.size ≤ w.heap.size + 1 + 1; omega) _).setCell (p := ⟨w.heap.size + 1 + 1, 4, none⟩) (by show w.heap.size ≤ w.heap.size + 1 + 1; omega) _).setCell (p := ⟨w.heap.size + 1 + 1, 5, none⟩) (by show w.heap.size ≤ w.heap.size + 1 + 1; omega) _)

end Go.Proofs.YtjmjhbdlbmnllaaGreatDoor

namespace Go.Proofs.YtjmjhbdlbmnllaaGreatDoor
open Go.RowKit

/-- Blocks that are neither a unit nor a row of items are as they were. -/
def KeepM (W W' : World) : Prop := W.heap.size ≤ W'.heap.size ∧ ∀ (q : Nat) (o : Obj), W.heap[q]? = some o → (∀ c f, o ≠ .cells c 90 f) → (∀ c f, o ≠ .cells c 140 f) → W'.heap[q]? = some o
theorem KeepM.of {W W' : World} (h : Below W.heap.size W W') : KeepM W W' := ⟨h.size, fun q o hb _ _ => by rw [h.block q (blk_lt hb)]; exact hb⟩
theorem KeepM.trans {A B C : World} (h : KeepM A B) (k : KeepM B C) : KeepM A C := ⟨Nat.le_trans h.1 k.1, fun q o hb h1 h2 => k.2 q o (h.2 q o hb h1 h2) h1 h2⟩

/-- An item, with its functions, is added: what stays (as uadd_any, and more of what is kept). -/
theorem uadd_more (gu B : Nat) (e nv lm pp pv rv fa by' : Value) (ln li : Int) (x : It) (its : List It) (w : World) (h : UR w B gu e ln nv lm pp pv rv its) (hx : x.line = ln) (hg : GenR w gu x fa by') (hn : its.length ≤ 100000) :
    Calls Tryz.prog 57 #[.pointer (some ⟨gu, 0, none⟩), itV li x.size x.upTo x.align fa by'] w fun r w' => r = .returned (.tuple #[]) ∧ UR w' B gu e ln nv lm pp pv rv (its ++ [x]) ∧ Fr gu B w w' ∧ KeepM w w' := by
  obtain ⟨iv, l, h1, h2, h3, h4⟩ := h.its
  obtain ⟨hfa, hby⟩ := hg.shape
  refine (add_any gu B its.length e nv lm iv pp pv rv fa by' ln li x.size x.upTo x.align (itC l) w h.le h1 h2 h.lt hn hfa hby).mono ?_
  rintro r w' ⟨rfl, ⟨iv', k1, k2⟩, k3, k4⟩
  have hk : KeepM w w' := ⟨k3.size, fun q o hb t1 t2 => by
    rw [k4 q (blk_lt hb) (by rintro rfl; rw [h1] at hb; injection hb with hb; exact t1 _ _ hb.symm) (by
      rcases h2.2 with ⟨h5, _⟩ | ⟨g, cap, cur, h5, h6, h7, _⟩
      · rw [h5]; simp [Value.ownBlock]
      · rw [h5]
        intro e0
        have e1 : q = g := by simpa [Value.ownBlock] using e0
        subst e1
        rw [h7] at hb
        injection hb with hb
        exact t2 _ _ hb.symm)]
    exact hb⟩
  have hku : KeepU w w' := ⟨hk.1, fun q c t f hb ht => hk.2 q _ hb (by rintro c' f' e0; injection e0 with _ e1; subst e1; exact absurd ht (by decide)) (by rintro c' f' e0; injection e0 with _ e1; subst e1; exact absurd ht (by decide))⟩
  refine ⟨rfl, ⟨h.lt, Nat.le_trans h.le k3.size, iv', l ++ [(x, fa, by')], k1, ?_, by simp [h3], ?_⟩, k3, hk⟩
  · have e1 : itC (l ++ [(x, fa, by')]) = itC l ++ [.int .i64 ln, .int .i64 x.size, .int .i64 x.upTo, .int .i64 x.align, fa, by'] := by simp [itC, hx]
    rw [e1, List.length_append]
    exact k2
  · intro p hp
    rcases List.mem_append.1 hp with hp | hp
    · exact (h4 p hp).keep hku
    · simp only [List.mem_singleton] at hp
      subst hp
      exact hg.keep hku

set_option maxHeartbeats 4000000 in
/-- An instruction that is whole. -/
theorem instr_plain (gu B : Nat) (e nv lm pp pv rv : Value) (ln : Int) (its : List It) (name : ByteArray) (ops : List Opd) (oa : Option Addr) (oc : Nat) (op : Int) (w : World) (h : UR w B gu e ln nv lm pp pv rv its) (hL : Isa.Laid w) (hF : FLaid w) (hr : OpsR w oa ops) (hn : ops.length ≤ 1000) (hkd : ∀ o, o ∈ ops → o.kd.data.toList.length = 1) (hnm : ∀ o, o ∈ ops → o.kd.toList = kdN → o.nm = ⟨#[]⟩)
    (hnot : formU ops ≠ [61, 114]) (hpl : (formU ops).head? ≠ some 112) (hop : findU name ⟨(formU ops).toArray⟩ 12 0 = op) (h0 : op ≠ 0) (hw : Isa.wrongI (ops.foldl fillU ⟨op, 0, 0, 0⟩).op (ops.foldl fillU ⟨op, 0, 0, 0⟩).n (ops.foldl fillU ⟨op, 0, 0, 0⟩).m (ops.foldl fillU ⟨op, 0, 0, 0⟩).imm = 0) (hits : its.length ≤ 100000) :
    Calls Tryz.prog 102 #[.pointer (some ⟨gu, 0, none⟩), .string name, .slice oa ops.length oc] w fun r w' => r = .returned (.int .i64 0) ∧ UR w' B gu e ln nv lm pp pv rv (its ++ [plainI ln (ops.foldl fillU ⟨op, 0, 0, 0⟩).op (ops.foldl fillU ⟨op, 0, 0, 0⟩).n (ops.foldl fillU ⟨op, 0, 0, 0⟩).m (ops.foldl fillU ⟨op, 0, 0, 0⟩).imm]) ∧ Fr gu B w w' ∧ KeepM w w' := by
  have kpO : ∀ {W : World}, Below w.heap.size w W → OpsR W oa ops := fun {W} hb => hr.keep fun hq => by rw [hb.block _ (blk_lt hq)]; exact hq
  have HFO := Lib.hid fun W (hb : Below w.heap.size w W) => formOf_any ops oa oc W (kpO hb) hn hkd
  have HFD := Lib.hid fun W (hb : Below w.heap.size w W) => find_any name ⟨(formU ops).toArray⟩ W (hL.below hb hL.sz) (hF.below hb hF.sz)
  have HFL := Lib.hid fun W (hb : Below w.heap.size w W) => filled_any op ops oa oc W (hL.below hb hL.sz) (kpO hb) hn hnm
  rw [hop] at HFD
  rw [hw] at HFL
  have HPL := Lib.hid fun W => plain_any (ops.foldl fillU ⟨op, 0, 0, 0⟩).op (ops.foldl fillU ⟨op, 0, 0, 0⟩).n (ops.foldl fillU ⟨op, 0, 0, 0⟩).m (ops.foldl fillU ⟨op, 0, 0, 0⟩).imm W
  have HU := Lib.hid h
  have HAD := Lib.hid fun W g (hb : Below w.heap.size w W) (hg : W.heap[g]? = some (.cells #[.int .i64 (ops.foldl fillU ⟨op, 0, 0, 0⟩).op, .int .i64 (ops.foldl fillU ⟨op, 0, 0, 0⟩).n, .int .i64 (ops.foldl fillU ⟨op, 0, 0, 0⟩).m, .int .i64 (ops.foldl fillU ⟨op, 0, 0, 0⟩).imm] 39 (0, 0))) => uadd_more gu B e nv lm pp pv rv .nilFunc (.func (.func 183) #[] #[.pointer (some ⟨g, 0, none⟩)]) ln 0 (plainI ln (ops.foldl fillU ⟨op, 0, 0, 0⟩).op (ops.foldl fillU ⟨op, 0, 0, 0⟩).n (ops.foldl fillU ⟨op, 0, 0, 0⟩).m (ops.foldl fillU ⟨op, 0, 0, 0⟩).imm) its W (HU.out.go hb) rfl ⟨rfl, g, rfl, hg⟩ hits
  have HFW : Hid (∀ W W', Below w.heap.size w W → Fr gu B W W' → Fr gu B w W') := fun W W' hb hf => (Fr.below (hb.mono HU.out.le)).trans hf
  unfold itV at HPL HAD
  simp only [plainI] at HAD
  have hf1 : (formU ops == [61, 114]) = false := beq_eq_false_iff_ne.2 hnot
  have h0' : (op == 0) = false := beq_eq_false_iff_ne.2 h0
  clear hL hF hr kpO hkd hnm hw h
  generalize ops.foldl fillU ⟨op, 0, 0, 0⟩ = fi at *
  obtain ⟨fo, fn, fm, fi⟩ := fi
  simp only at *
  obtain ⟨FM, hFM⟩ : ∃ FM, formU ops = FM := ⟨_, rfl⟩
  rw [hFM] at HFO HFD hf1 hpl
  clear hFM hop hnot
  have HHP : Hid (∀ W, Calls Tryz.prog 121 #[.string ⟨FM.toArray⟩, .string ⟨#[112]⟩] W fun e w' => e = .returned (.bool false) ∧ W = w') := fun W => by
    refine (Tryz.strings_HasPrefix ⟨FM.toArray⟩ ⟨#[112]⟩ W).mono ?_
    rintro e w' ⟨rfl, rfl⟩
    refine ⟨?_, rfl⟩
    congr 2
    simp only
    cases FM with
    | nil => rfl
    | cons a r =>
      have ha : a ≠ 112 := by simpa using hpl
      show (List.isPrefixOf [112] (a :: r)) = false
      simp only [List.isPrefixOf, Bool.and_eq_false_iff, beq_eq_false_iff_ne]
      exact .inl (Ne.symm ha)
  go_enter Tryz.func102, Tryz.ntmps102
  go_wp2_with fail
  refine (HFO.out _ (by go_grown)).mono ?_
  rintro e w1 ⟨rfl, hb1⟩
  have hB1 : Below w.heap.size w w1 := Below.trans (by go_grown) (hb1.mono (by go_size))
  have xu : w1.heap[w.heap.size]? = some (.cells #[.pointer (some ⟨gu, 0, none⟩)] 127 (0, 0)) := by rw [hb1.block _ (by go_size), old2 _ _ (by go_size)]; exact new_at _ _ rfl
  have xl : w1.heap[w.heap.size + 1]? = some (.cells #[.slice oa ops.length oc] 133 (0, 0)) := by rw [hb1.block _ (by go_size)]; exact new_at _ _ (by go_size)
  have HB1 := Lib.hid hB1
  have XU := Lib.hid xu
  have XL := Lib.hid xl
  have a0 : w1.cell? ⟨w.heap.size, 0, none⟩ = some (.pointer (some ⟨gu, 0, none⟩)) := blk_cell xu rfl
  have a1 : w1.cell? ⟨w.heap.size + 1, 0, none⟩ = some (.slice oa ops.length oc) := blk_cell xl rfl
  have z1 := blk_lt xl
  clear hb1 hB1 xu xl HFO
  go_wp2_with (first | (go_at_call 147; refine (HFD.out _ HB1.out).mono ?_; rintro e w2 ⟨rfl, hb2⟩; have HB2 := Lib.hid (HB1.out.trans (hb2.mono HB1.out.size)); have XU2 := Lib.hid ((hb2.block _ (blk_lt XU.out)).trans XU.out); have XL2 := Lib.hid ((hb2.block _ (blk_lt XL.out)).trans XL.out); have b0 : w2.cell? ⟨w.heap.size, 0, none⟩ = some (.pointer (some ⟨gu, 0, none⟩)) := blk_cell XU2.out rfl; have b1 : w2.cell? ⟨w.heap.size + 1, 0, none⟩ = some (.slice oa ops.length oc) := blk_cell XL2.out rfl; have z2 := blk_lt XL2.out; clear hb2) | fail)
  all_goals
    refine (HFL.out _ HB2.out).mono ?_
    rintro e w3 ⟨rfl, hb3⟩
    have HB3 := Lib.hid (HB2.out.trans (hb3.mono HB2.out.size))
    have XU3 := Lib.hid ((hb3.block _ (blk_lt XU2.out)).trans XU2.out)
    have d0 : w3.cell? ⟨w.heap.size, 0, none⟩ = some (.pointer (some ⟨gu, 0, none⟩)) := blk_cell XU3.out rfl
    have z3 := blk_lt XU3.out
    clear hb3 a0 a1 b0 b1
    go_wp2_with fail
  all_goals
    refine (HHP.out _).mono ?_
    rintro e w4 ⟨rfl, rfl⟩
    go_wp2_with fail
    have HB4 : Hid (Below w.heap.size w ((w3.alloc (.cells #[.int .i64 fo, .int .i64 fn, .int .i64 fm, .int .i64 fi] 39)).drew)) := (HB3.out.alloc HB3.out.size _).drew
    have XU4 : Hid ((w3.alloc (.cells #[.int .i64 fo, .int .i64 fn, .int .i64 fm, .int .i64 fi] 39)).drew.heap[w.heap.size]? = some (.cells #[.pointer (some ⟨gu, 0, none⟩)] 127 (0, 0))) := (old2 _ _ z3).trans XU3.out
    clear HB1 HB2 HFD HFL HHP XU XL XU2 XL2
    go_region_with (first
      | (go_at_call 150; refine (HPL.out _).mono ?_; rintro e w5 ⟨⟨g, rfl, _, hgi⟩, hb5⟩; have HB5 := Lib.hid (HB4.out.trans (hb5.mono HB4.out.size)); have xu5 := (hb5.block _ (blk_lt XU4.out)).trans XU4.out; have e0 : w5.cell? ⟨w.heap.size, 0, none⟩ = some (.pointer (some ⟨gu, 0, none⟩)) := blk_cell xu5 rfl; have z5 := blk_lt xu5; have HGI := Lib.hid hgi; clear hb5 xu5 hgi)
      | (go_at_call 57; refine (HAD.out _ _ HB5.out HGI.out).mono ?_; rintro e w6 ⟨rfl, hu6, hf6, hk6⟩))
  all_goals
    have HU6 := Lib.hid hu6
    have HF6 := Lib.hid (HFW.out _ _ HB5.out hf6)
    have HK6 := Lib.hid ((KeepM.of HB5.out).trans hk6)
    clear hu6 hf6 hk6
    go_wp2_with fail
    go_ret
    exact ⟨rfl, HU6.out, HF6.out, HK6.out⟩

end Go.Proofs.YtjmjhbdlbmnllaaGreatDoor

namespace Go.Proofs.YtjmjhbdlbmnllaaGreatDoor
open Go.RowKit

set_option maxRecDepth 100000 in
theorem numbers_more (gu B : Nat) (e nv lm pp pv rv : Value) (ln : Int) (its : List It) (size : Int) (ns : List Int) (oa : Option Addr) (oc : Nat) (w : World) (h : UR w B gu e ln nv lm pp pv rv its) (hs : size = 1 ∨ size = 2 ∨ size = 4) (hn0 : 0 < ns.length) (hn : its.length + ns.length ≤ 100000)
    (hr : OpsR w oa (ns.map fun n => ⟨⟨#[112]⟩, 0, ⟨#[]⟩, n⟩)) (hfit : ∀ n, n ∈ ns → fitsU n (8 * size) = true) :
    Calls Tryz.prog 100 #[.pointer (some ⟨gu, 0, none⟩), .int .i64 size, .slice oa ns.length oc] w fun r w' => r = .returned (.int .i64 0) ∧ UR w' B gu e ln nv lm pp pv rv (its ++ ns.map (numI ln size [])) ∧ Fr gu B w w' ∧ KeepM w w' := by
  have hne : ((ns.length : Int) == 0) = false := beq_eq_false_iff_ne.2 (by omega)
  have H0 := Lib.hid h
  have HR := Lib.hid hr
  have HFIT := Lib.hid hfit
  clear h hr hfit
  go_enter Tryz.func100, Tryz.ntmps100
  go_wp2_with fail
  go_loopw [15] (fun iv wr => ∃ k : Nat, k ≤ ns.length ∧ iv = .int .i64 k ∧ Hid (UR wr B gu e ln nv lm pp pv rv (its ++ (ns.take k).map (numI ln size []))) ∧ Hid (Fr gu B w wr) ∧ Hid (KeepM w wr)) (fun iv _ => ns.length - (intOf iv).toNat)
  case atStart => exact ⟨0, Nat.zero_le _, rfl, Lib.hid (by simpa using H0.out), Fr.refl _ _ _, KeepM.of (Below.refl _ _)⟩
  case round =>
    obtain ⟨k, hk, rfl, HU, HF, HK⟩ := hrel
    by_cases hlt : k < ns.length
    · have hk' : (k : Int) < ns.length := by omega
      have hs1 : 1 ≤ size ∧ size ≤ 4 := by omega
      obtain ⟨g, hoa, hgl, k0, k1, k2, k3⟩ : ∃ g, oa = some ⟨g, 0, none⟩ ∧ g < wr.heap.size ∧ wr.cell? ⟨g, k * 4, none⟩ = some (.string ⟨#[112]⟩) ∧ wr.cell? ⟨g, k * 4 + 1, none⟩ = some (.int .i64 0) ∧ wr.cell? ⟨g, k * 4 + 2, none⟩ = some (.string ⟨#[]⟩) ∧ wr.cell? ⟨g, k * 4 + 3, none⟩ = some (.int .i64 ns[k]) := by
        obtain ⟨g, rfl, cur, hgg, hcell⟩ := HR.out (by simpa using hn0)
        have hgw : wr.heap[g]? = some (.cells cur 186 (0, 0)) := HK.out.2 _ _ hgg (by intro c f e; injection e with _ e3; exact absurd e3 (by decide)) (by intro c f e; injection e with _ e3; exact absurd e3 (by decide))
        obtain ⟨a, b, c, d⟩ := hcell k (by simpa using hlt)
        simp only [List.getElem_map] at a b c d
        exact ⟨g, rfl, blk_lt hgw, blk_cell hgw a, blk_cell hgw b, blk_cell hgw c, blk_cell hgw d⟩
      subst hoa
      obtain ⟨n, hnk⟩ : ∃ n, ns[k]'hlt = n := ⟨_, rfl⟩
      rw [hnk] at k3
      have hft : fitsU n (8 * size) = true := HFIT.out n (by rw [← hnk]; exact List.getElem_mem _)
      have HFI : Hid (∀ W, Calls Tryz.prog 143 #[.int .i64 n, .int .i64 (8 * size)] W fun r w' => r = .returned (.bool true) ∧ w' = W) := fun W => by
        have := fitsA_any n (8 * size) (by omega) W
        rwa [hft] at this
      have HT : Hid (its ++ (ns.take (k + 1)).map (numI ln size []) = (its ++ (ns.take k).map (numI ln size [])) ++ [numI ln size [] n]) := by
        unfold Hid
        rw [List.take_succ_eq_append_getElem hlt, hnk]
        simp
      have HNU := Lib.hid fun W => numberI_any ⟨gu, 0, none⟩ size ⟨#[]⟩ n W
      clear hnk hft
      go_wp2_with (go_at_call 143; refine (HFI.out _).mono ?_; rintro e w1 ⟨rfl, rfl⟩)
      refine (HNU.out _).mono ?_
      rintro e' w2 ⟨⟨gb, gs, gv, rfl, _, x1, x2, x3⟩, hb2⟩
      have hB2 : Below wr.heap.size wr w2 := Below.trans (oalloc _ _) (hb2.mono (by simp))
      have hU2 := HU.out.go hB2
      have HAD := Lib.hid (uadd_more gu B e nv lm pp pv rv _ _ ln 0 (numI ln size [] n) _ w2 hU2 rfl (GenR.num (nm := []) x1 x2 x3) (by simp; omega))
      have HF2 : Hid (Fr gu B w w2) := HF.out.trans (Fr.below (hB2.mono HU.out.le))
      have HK2 : Hid (KeepM w w2) := HK.out.trans (KeepM.of hB2)
      clear x1 x2 x3 hb2 hB2 hU2 HNU HFI HU HF HK
      unfold itV numI at HAD
      unfold itV
      simp only at HAD
      go_wp2_with (go_at_call 57; refine HAD.out.mono ?_; rintro e'' w3 ⟨rfl, hu3, hf3, hk3⟩; have HU3 := Lib.hid hu3; have HF3 := Lib.hid (HF2.out.trans hf3); have HK3 := Lib.hid (HK2.out.trans hk3); clear hu3 hf3 hk3)
      exact ⟨⟨k + 1, by omega, by go_num, Lib.hid (by rw [HT.out]; exact HU3.out), HF3, HK3⟩, by simp [intOf]; omega⟩
    · obtain rfl : k = ns.length := by omega
      have hk' : ¬ ((ns.length : Nat) : Int) < ns.length := by omega
      go_wp2
      go_ret
      have := HU.out
      rw [List.take_length] at this
      exact ⟨rfl, this, HF.out, HK.out⟩


theorem statement_word (gu B : Nat) (e nv lm pp pv rv : Value) (ln : Int) (its : List It) (ns : List Int) (oa : Option Addr) (oc : Nat) (w : World) (h : UR w B gu e ln nv lm pp pv rv its) (hn0 : 0 < ns.length) (hn : its.length + ns.length ≤ 100000)
    (hr : OpsR w oa (ns.map fun n => ⟨⟨#[112]⟩, 0, ⟨#[]⟩, n⟩)) (hfit : ∀ n, n ∈ ns → fitsU n 16 = true) :
    Calls Tryz.prog 56 #[.pointer (some ⟨gu, 0, none⟩), .string ⟨#[46, 119, 111, 114, 100]⟩, .slice oa ns.length oc] w fun r w' => r = .returned (.int .i64 0) ∧ UR w' B gu e ln nv lm pp pv rv (its ++ ns.map (numI ln 2 [])) ∧ Fr gu B w w' ∧ KeepM w w' := by
  have HN := Lib.hid (numbers_more gu B e nv lm pp pv rv ln its 2 ns oa oc w h (.inr (.inl rfl)) hn0 hn hr hfit)
  clear h hr hfit
  go_enter Tryz.func56, Tryz.ntmps56
  go_wp2_with (go_at_call 100; refine HN.out.mono ?_; rintro e' w1 ⟨rfl, h1, h2, h3⟩)
  go_ret
  exact ⟨rfl, h1, h2, h3⟩

end Go.Proofs.YtjmjhbdlbmnllaaGreatDoor

namespace Go.Proofs.YtjmjhbdlbmnllaaGreatDoor
open Go.RowKit Go.Maps Go.MapKept

theorem index_nil (fc : Array Value) (w : World) : Calls Tryz.prog 169 #[.slice none 0 0, .func (.func 132) #[] fc] w fun r w' => r = .returned (.int .i64 (-1)) ∧ Below w.heap.size w w' := by
  go_enter Tryz.func169, Tryz.ntmps169
  go_wp2_with fail
  refine wp_loop_rounds 1 ?_
  rw [rounds_succ]
  go_wp2
  go_ret
  exact ⟨rfl, Below.refl _ _⟩
theorem contains_nil (fc : Array Value) (w : World) : Calls Tryz.prog 130 #[.slice none 0 0, .func (.func 132) #[] fc] w fun r w' => r = .returned (.bool false) ∧ Below w.heap.size w w' := by
  have HI := Lib.hid (index_nil fc)
  go_enter Tryz.func130, Tryz.ntmps130
  go_wp2_with (first | (go_at_call 169; refine (HI.out _).mono ?_; rintro e w1 ⟨rfl, hb1⟩) | fail)
  go_ret
  exact ⟨rfl, hb1⟩

set_option maxHeartbeats 4000000 in
theorem free_yes (gu mb : Nat) (n : Int) (nm : List UInt8) (l : List (List UInt8 × Nat)) (w : World) (c0 : w.cell? ⟨gu, 0, none⟩ = some (.slice none 0 0)) (c3 : w.cell? ⟨gu, 3, none⟩ = some (.map (some mb))) (hm : LbR w mb l) (hk : labelAt nm l = none) (hl : nm.length ≤ maxLen) (hG : Sc.Glob w) (hr : regU 1 nm < 0) (hname : Xp.nameR nm = true) :
    Calls Tryz.prog 94 #[.pointer (some ⟨gu, 0, none⟩), tokV 1 n ⟨nm.toArray⟩] w fun r w' => r = .returned (.bool true) ∧ Below w.heap.size w w' := by
  have HNA : Hid (∀ W, Calls Tryz.prog 129 #[.string ⟨nm.toArray⟩] W fun r w' => r = .returned (.bool true) ∧ W = w') := fun W => by
    refine (Xp.name_any ⟨nm.toArray⟩ W).mono ?_
    rintro e w' ⟨rfl, rfl⟩
    exact ⟨by simp [hname], rfl⟩
  have HCO := Lib.hid fun fc W => contains_nil fc W
  have HRG := Lib.hid fun W (hb : Below w.heap.size w W) => register_word n ⟨nm.toArray⟩ W (hG.below hb hG.sz)
  have hg : gu < w.heap.size := World.block_lt_of_cell? w _ c0
  have hlk := (hm.go (oalloc w (.cells #[.int .i64 1, .int .i64 n, .string ⟨nm.toArray⟩] 113))).look0 hl hk
  have hlk' := (hm.go (oalloc w (.cells #[.int .i64 1, .int .i64 n, .string ⟨nm.toArray⟩] 113)).drew).look0 hl hk
  clear hname hm hG hk
  simp only at HRG
  generalize regU 1 nm = rg at *
  unfold tokV at *
  go_enter Tryz.func94, Tryz.ntmps94
  go_wp2_with fail
  go_region
  all_goals go_wp2_with fail
  all_goals
    refine (HNA.out _).mono ?_
    rintro e w1 ⟨rfl, rfl⟩
    go_wp2_with fail
    refine (HRG.out _ ((oalloc _ _).drew)).mono ?_
    rintro e w1 ⟨rfl, hb1⟩
    have HB1 : Hid (Below w.heap.size w w1) := ((oalloc w (.cells #[.int .i64 1, .int .i64 n, .string ⟨nm.toArray⟩] 113)).drew).trans (hb1.mono (by show w.heap.size ≤ (World.alloc _ _).heap.size; simp))
    have d0 : w1.cell? ⟨gu, 0, none⟩ = some (.slice none 0 0) := by rw [HB1.out.cell (by exact hg)]; exact c0
    have hg1 := Nat.lt_of_lt_of_le hg HB1.out.size
    clear hb1
    go_wp2_with fail
    refine (HCO.out _ _).mono ?_
    rintro e w2 ⟨rfl, hb2⟩
    go_wp2_with fail
    go_ret
    exact ⟨rfl, HB1.out.trans (hb2.mono HB1.out.size)⟩

end Go.Proofs.YtjmjhbdlbmnllaaGreatDoor
