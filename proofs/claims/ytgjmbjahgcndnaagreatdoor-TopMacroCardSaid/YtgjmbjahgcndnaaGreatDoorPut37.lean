/- asm: an instruction that leads, made; a value of a pool asked for. asm: instructions kept. asm: a load off the pool. asm: instructions that lead. asm: a pool of one value laid. asm: a line read: what its parts make. asm: the bytes of an instruction that leads. asm: the bytes of a value that is a place: a reloc is kept. -/
import Derived.Test.YtgjmbjahgcndnaaGreatDoorPut31
import Derived.Test.YtgjmbjahgcndnaaGreatDoorPut36
import Derived.Test.YtgjmbjahgcndnaaGreatDoorPut32
import Derived.Test.YtgjmbjahgcndnaaGreatDoorPut33
namespace Go.Proofs.YtgjmbjahgcndnaaGreatDoor
open Go.RowKit

theorem var6_of {w : World} {R : Nat} {a b c d e f : Value} {t : TypeId} (h : w.heap[R]? = some (.cells #[a, b, c, d, e, f] t (0, 0))) : ((w.cell? ⟨R, 0, none⟩ = some a ∧ w.cell? ⟨R, 1, none⟩ = some b ∧ w.cell? ⟨R, 2, none⟩ = some c) ∧ (w.cell? ⟨R, 3, none⟩ = some d ∧ w.cell? ⟨R, 4, none⟩ = some e ∧ w.cell? ⟨R, 5, none⟩ = some f)) ∧ (w.frozen? ⟨R, 0, none⟩ = false ∧ w.frozen? ⟨R, 1, none⟩ = false ∧ w.frozen? ⟨R, 2, none⟩ = false) ∧ w.frozen? ⟨R, 3, none⟩ = false ∧ w.frozen? ⟨R, 4, none⟩ = false ∧ w.frozen? ⟨R, 5, none⟩ = false := by
  refine ⟨⟨⟨?_, ?_, ?_⟩, ?_, ?_, ?_⟩, ⟨?_, ?_, ?_⟩, ?_, ?_, ?_⟩ <;> simp [World.cell?, World.frozen?, h]

set_option maxHeartbeats 2000000 in
theorem leading_any (gu : Nat) (op n m imm : Int) (fn : Fn) (fa fc : Array Value) (w : World) (hL : Isa.Laid w) :
    Calls Tryz.prog 168 #[.pointer (some ⟨gu, 0, none⟩), .agg #[.int .i64 op, .int .i64 n, .int .i64 m, .int .i64 imm], .func fn fa fc] w fun r w' =>
      (∃ gt gi, r = .returned (itV 0 2 1 2 (if Isa.infoShape op = 4 then .func (.func 200) #[] #[.pointer (some ⟨gt, 0, none⟩)] else .nilFunc) (.func (.func 196) #[] #[.pointer (some ⟨gt, 0, none⟩), .pointer (some ⟨gi, 0, none⟩)]))
        ∧ w'.heap[gt]? = some (.cells #[.func fn fa fc] 269 (0, 0)) ∧ w'.heap[gi]? = some (.cells #[.int .i64 op, .int .i64 n, .int .i64 m, .int .i64 imm] 71 (0, 0))) ∧ Below w.heap.size w w' := by
  have HI := Lib.hid fun W (hb : Below w.heap.size w W) => Isa.info_any op W (hL.below hb hL.sz)
  generalize Isa.infoShape op = sh at *
  generalize Isa.infoName op = nm at *
  clear hL
  unfold itV
  by_cases h4 : sh = 4
  · subst h4
    simp only [↓reduceIte]
    go_enter Tryz.func168, Tryz.ntmps168
    go_wp2_with fail
    refine (HI.out _ (by go_grown)).mono ?_
    rintro e w1 ⟨rfl, hb1⟩
    have xi : w1.heap[w.heap.size]? = some (.cells #[.int .i64 op, .int .i64 n, .int .i64 m, .int .i64 imm] 71 (0, 0)) := by
      rw [hb1.block _ (by go_size), old2 _ _ (by go_size), old2 _ _ (by go_size), old2 _ _ (by go_size)]; exact new_at _ _ rfl
    have xt : w1.heap[w.heap.size + 1]? = some (.cells #[.func fn fa fc] 269 (0, 0)) := by
      rw [hb1.block _ (by go_size), old2 _ _ (by go_size), old2 _ _ (by go_size)]; exact new_at _ _ (by go_size)
    have xr : w1.heap[w.heap.size + 1 + 1]? = some (.cells #[.int .i64 0, .int .i64 0, .int .i64 0, .int .i64 0, .nilFunc, .nilFunc] 198 (0, 0)) := by
      rw [hb1.block _ (by go_size), old2 _ _ (by go_size)]; exact new_at _ _ (by go_size)
    have xx : w1.heap[w.heap.size + 1 + 1 + 1]? = some (.cells #[.int .i64 0, .int .i64 2, .int .i64 1, .int .i64 2, .nilFunc, .func (.func 196) #[] #[.pointer (some ⟨w.heap.size + 1, 0, none⟩), .pointer (some ⟨w.heap.size, 0, none⟩)]] 198 (0, 0)) := by
      rw [hb1.block _ (by go_size)]; exact new_at _ _ (by go_size)
    have HB1 : Hid (Below w.heap.size w w1) := Below.trans (by go_grown) (hb1.mono (by go_size))
    obtain ⟨⟨⟨a0, a1, a2⟩, a3, a4, a5⟩, ⟨e0, e1, e2⟩, e3, e4, e5⟩ := var6_of xr
    obtain ⟨⟨⟨b0, b1, b2⟩, b3, b4, b5⟩, ⟨g0, g1, g2⟩, g3, g4, g5⟩ := var6_of xx
    have hz := blk_lt xx
    have XI := Lib.hid xi
    have XT := Lib.hid xt
    clear hb1 xi xt xr xx HI
    go_wp2_with fail
    refine bodyPost_ret (v := .agg #[.int .i64 0, .int .i64 2, .int .i64 1, .int .i64 2, .func (.func 200) #[] #[.pointer (some ⟨w.heap.size + 1, 0, none⟩)], .func (.func 196) #[] #[.pointer (some ⟨w.heap.size + 1, 0, none⟩), .pointer (some ⟨w.heap.size, 0, none⟩)]]) (by simp [results, Tryz.results168, go_sem, a0, a1, a2, a3, a4, a5]) rfl ⟨⟨w.heap.size + 1, w.heap.size, rfl, ?_, ?_⟩, ?_⟩
    · rw [Below.heap_setCell _ _ _ _ (by show w.heap.size + 1 ≠ w.heap.size + 1 + 1; omega), Below.heap_setCell _ _ _ _ (by show w.heap.size + 1 ≠ w.heap.size + 1 + 1; omega), Below.heap_setCell _ _ _ _ (by show w.heap.size + 1 ≠ w.heap.size + 1 + 1; omega), Below.heap_setCell _ _ _ _ (by show w.heap.size + 1 ≠ w.heap.size + 1 + 1; omega), Below.heap_setCell _ _ _ _ (by show w.heap.size + 1 ≠ w.heap.size + 1 + 1; omega), Below.heap_setCell _ _ _ _ (by show w.heap.size + 1 ≠ w.heap.size + 1 + 1; omega), Below.heap_setCell _ _ _ _ (by show w.heap.size + 1 ≠ w.heap.size + 1 + 1 + 1; omega)]
      exact XT.out
    · rw [Below.heap_setCell _ _ _ _ (by show w.heap.size ≠ w.heap.size + 1 + 1; omega), Below.heap_setCell _ _ _ _ (by show w.heap.size ≠ w.heap.size + 1 + 1; omega), Below.heap_setCell _ _ _ _ (by show w.heap.size ≠ w.heap.size + 1 + 1; omega), Below.heap_setCell _ _ _ _ (by show w.heap.size ≠ w.heap.size + 1 + 1; omega), Below.heap_setCell _ _ _ _ (by show w.heap.size ≠ w.heap.size + 1 + 1; omega), Below.heap_setCell _ _ _ _ (by show w.heap.size ≠ w.heap.size + 1 + 1; omega), Below.heap_setCell _ _ _ _ (by show w.heap.size ≠ w.heap.size + 1 + 1 + 1; omega)]
      exact XI.out
    · exact (((((((HB1.out.setCell (p := ⟨w.heap.size + 1 + 1 + 1, 4, none⟩) (by show w.heap.size ≤ w.heap.size + 1 + 1 + 1; omega) _).setCell (p := ⟨w.heap.size + 1 + 1, 0, none⟩) (by show w.heap.size ≤ w.heap.size + 1 + 1; omega) _).setCell (p := ⟨w.heap.size + 1 + 1, 1, none⟩) (by show w.heap.size ≤ w.heap.size + 1 + 1; omega) _).setCell (p := ⟨w.heap.size + 1 + 1, 2, none⟩) (by show w.heap.size ≤ w.heap.size + 1 + 1; omega) _).setCell (p := ⟨w.heap.size + 1 + 1, 3, none⟩) (by show w.heap.size ≤ w.heap.size + 1 + 1; omega) _).setCell (p := ⟨w.heap.size + 1 + 1, 4, none⟩) (by show w.heap.size ≤ w.heap.size + 1 + 1; omega) _).setCell (p := ⟨w.heap.size + 1 + 1, 5, none⟩) (by show w.heap.size ≤ w.heap.size + 1 + 1; omega) _)
  · simp only [h4, ↓reduceIte]
    have h4' : (sh == 4) = false := beq_eq_false_iff_ne.2 h4
    go_enter Tryz.func168, Tryz.ntmps168
    go_wp2_with fail
    refine (HI.out _ (by go_grown)).mono ?_
    rintro e w1 ⟨rfl, hb1⟩
    have xi : w1.heap[w.heap.size]? = some (.cells #[.int .i64 op, .int .i64 n, .int .i64 m, .int .i64 imm] 71 (0, 0)) := by
      rw [hb1.block _ (by go_size), old2 _ _ (by go_size), old2 _ _ (by go_size), old2 _ _ (by go_size)]; exact new_at _ _ rfl
    have xt : w1.heap[w.heap.size + 1]? = some (.cells #[.func fn fa fc] 269 (0, 0)) := by
      rw [hb1.block _ (by go_size), old2 _ _ (by go_size), old2 _ _ (by go_size)]; exact new_at _ _ (by go_size)
    have xr : w1.heap[w.heap.size + 1 + 1]? = some (.cells #[.int .i64 0, .int .i64 0, .int .i64 0, .int .i64 0, .nilFunc, .nilFunc] 198 (0, 0)) := by
      rw [hb1.block _ (by go_size), old2 _ _ (by go_size)]; exact new_at _ _ (by go_size)
    have xx : w1.heap[w.heap.size + 1 + 1 + 1]? = some (.cells #[.int .i64 0, .int .i64 2, .int .i64 1, .int .i64 2, .nilFunc, .func (.func 196) #[] #[.pointer (some ⟨w.heap.size + 1, 0, none⟩), .pointer (some ⟨w.heap.size, 0, none⟩)]] 198 (0, 0)) := by
      rw [hb1.block _ (by go_size)]; exact new_at _ _ (by go_size)
    have HB1 : Hid (Below w.heap.size w w1) := Below.trans (by go_grown) (hb1.mono (by go_size))
    obtain ⟨⟨⟨a0, a1, a2⟩, a3, a4, a5⟩, ⟨e0, e1, e2⟩, e3, e4, e5⟩ := var6_of xr
    obtain ⟨⟨⟨b0, b1, b2⟩, b3, b4, b5⟩, ⟨g0, g1, g2⟩, g3, g4, g5⟩ := var6_of xx
    have hz := blk_lt xx
    have XI := Lib.hid xi
    have XT := Lib.hid xt
    clear hb1 xi xt xr xx HI
    go_wp2_with fail
    refine bodyPost_ret (v := .agg #[.int .i64 0, .int .i64 2, .int .i64 1, .int .i64 2, .nilFunc, .func (.func 196) #[] #[.pointer (some ⟨w.heap.size + 1, 0, none⟩), .pointer (some ⟨w.heap.size, 0, none⟩)]]) (by simp [results, Tryz.results168, go_sem, a0, a1, a2, a3, a4, a5]) rfl ⟨⟨w.heap.size + 1, w.heap.size, rfl, ?_, ?_⟩, ?_⟩
    · rw [Below.heap_setCell _ _ _ _ (by show w.heap.size + 1 ≠ w.heap.size + 1 + 1; omega), Below.heap_setCell _ _ _ _ (by show w.heap.size + 1 ≠ w.heap.size + 1 + 1; omega), Below.heap_setCell _ _ _ _ (by show w.heap.size + 1 ≠ w.heap.size + 1 + 1; omega), Below.heap_setCell _ _ _ _ (by show w.heap.size + 1 ≠ w.heap.size + 1 + 1; omega), Below.heap_setCell _ _ _ _ (by show w.heap.size + 1 ≠ w.heap.size + 1 + 1; omega), Below.heap_setCell _ _ _ _ (by show w.heap.size + 1 ≠ w.heap.size + 1 + 1; omega)]
      exact XT.out
    · rw [Below.heap_setCell _ _ _ _ (by show w.heap.size ≠ w.heap.size + 1 + 1; omega), Below.heap_setCell _ _ _ _ (by show w.heap.size ≠ w.heap.size + 1 + 1; omega), Below.heap_setCell _ _ _ _ (by show w.heap.size ≠ w.heap.size + 1 + 1; omega), Below.heap_setCell _ _ _ _ (by show w.heap.size ≠ w.heap.size + 1 + 1; omega), Below.heap_setCell _ _ _ _ (by show w.heap.size ≠ w.heap.size + 1 + 1; omega), Below.heap_setCell _ _ _ _ (by show w.heap.size ≠ w.heap.size + 1 + 1; omega)]
      exact XI.out
    · exact ((((((HB1.out.setCell (p := ⟨w.heap.size + 1 + 1, 0, none⟩) (by show w.heap.size ≤ w.heap.size + 1 + 1; omega) _).setCell (p := ⟨w.heap.size + 1 + 1, 1, none⟩) (by show w.heap.size ≤ w.heap.size + 1 + 1; omega) _).setCell (p := ⟨w.heap.size + 1 + 1, 2, none⟩) (by show w.heap.size ≤ w.heap.size + 1 + 1; omega) _).setCell (p := ⟨w.heap.size + 1 + 1, 3, none⟩) (by show w.heap.size ≤ w.heap.size + 1 + 1; omega) _).setCell (p := ⟨w.heap.size + 1 + 1, 4, none⟩) (by show w.heap.size ≤ w.heap.size + 1 + 1; omega) _).setCell (p := ⟨w.heap.size + 1 + 1, 5, none⟩) (by show w.heap.size ≤ w.heap.size + 1 + 1; omega) _)

end Go.Proofs.YtgjmbjahgcndnaaGreatDoor

namespace Go.Proofs.YtgjmbjahgcndnaaGreatDoor
open Go.RowKit

/-- Blocks that are neither a unit nor a row of items are as they were. -/
def KeepM (W W' : World) : Prop := W.heap.size ≤ W'.heap.size ∧ ∀ (q : Nat) (o : Obj), W.heap[q]? = some o → (∀ c f, o ≠ .cells c 141 f) → (∀ c f, o ≠ .cells c 198 f) → W'.heap[q]? = some o
theorem KeepM.of {W W' : World} (h : Below W.heap.size W W') : KeepM W W' := ⟨h.size, fun q o hb _ _ => by rw [h.block q (blk_lt hb)]; exact hb⟩
theorem KeepM.trans {A B C : World} (h : KeepM A B) (k : KeepM B C) : KeepM A C := ⟨Nat.le_trans h.1 k.1, fun q o hb h1 h2 => k.2 q o (h.2 q o hb h1 h2) h1 h2⟩

/-- An item, with its functions, is added: what stays (as uadd_any, and more of what is kept). -/
theorem uadd_more (gu B : Nat) (e nv lm pp pv rv fa by' : Value) (ln li : Int) (x : It) (its : List It) (w : World) (h : UR w B gu e ln nv lm pp pv rv its) (hx : x.line = ln) (hg : GenR w gu x fa by') (hn : its.length ≤ 100000) :
    Calls Tryz.prog 94 #[.pointer (some ⟨gu, 0, none⟩), itV li x.size x.upTo x.align fa by'] w fun r w' => r = .returned (.tuple #[]) ∧ UR w' B gu e ln nv lm pp pv rv (its ++ [x]) ∧ Fr gu B w w' ∧ KeepM w w' := by
  obtain ⟨iv, l, h1, h2, h3, h4⟩ := h.its
  obtain ⟨hfa, hby⟩ := hg.shape
  refine (add_any gu B its.length e nv lm iv pp pv rv fa by' ln li x.size x.upTo x.align (itC l) w h.le h1 h2 h.lt hn hfa hby).mono ?_
  rintro r w' ⟨rfl, ⟨iv', k1, k2⟩, k3, k4⟩
  have hk : KeepM w w' := ⟨k3.size, fun q o hb t1 t2 => by
    rw [k4 q (blk_lt hb) (by rintro rfl; rw [h1] at hb; injection hb with hb; exact t1 _ _ hb.symm) (by
      rcases h2.2 with ⟨h5, _⟩ | ⟨g, cap, cur, h5, h6, h7, _⟩
      · rw [h5]; simp [Value.ownBlock]
      · rw [h5]
        intro e0
        have e1 : q = g := by simpa [Value.ownBlock] using e0
        subst e1
        rw [h7] at hb
        injection hb with hb
        exact t2 _ _ hb.symm)]
    exact hb⟩
  have hku : KeepU w w' := ⟨hk.1, fun q c t f hb ht => hk.2 q _ hb (by rintro c' f' e0; injection e0 with _ e1; subst e1; exact absurd ht (by decide)) (by rintro c' f' e0; injection e0 with _ e1; subst e1; exact absurd ht (by decide))⟩
  refine ⟨rfl, ⟨h.lt, Nat.le_trans h.le k3.size, iv', l ++ [(x, fa, by')], k1, ?_, by simp [h3], ?_⟩, k3, hk⟩
  · have e1 : itC (l ++ [(x, fa, by')]) = itC l ++ [.int .i64 ln, .int .i64 x.size, .int .i64 x.upTo, .int .i64 x.align, fa, by'] := by simp [itC, hx]
    rw [e1, List.length_append]
    exact k2
  · intro p hp
    rcases List.mem_append.1 hp with hp | hp
    · exact (h4 p hp).keep hku
    · simp only [List.mem_singleton] at hp
      subst hp
      exact hg.keep hku

set_option maxHeartbeats 4000000 in
/-- An instruction that is whole. -/
theorem instr_plain (gu B : Nat) (e nv lm pp pv rv : Value) (ln : Int) (its : List It) (name : ByteArray) (ops : List Opd) (oa : Option Addr) (oc : Nat) (op : Int) (w : World) (h : UR w B gu e ln nv lm pp pv rv its) (hL : Isa.Laid w) (hF : FLaid w) (hr : OpsR w oa ops) (hn : ops.length ≤ 1000) (hkd : ∀ o, o ∈ ops → o.kd.data.toList.length = 1) (hnm : ∀ o, o ∈ ops → o.kd.toList = kdN → o.nm = ⟨#[]⟩)
    (hnot : formU ops ≠ [61, 114]) (hpl : (formU ops).head? ≠ some 112) (hop : findU name ⟨(formU ops).toArray⟩ 12 0 = op) (h0 : op ≠ 0) (hw : Isa.wrongI (ops.foldl fillU ⟨op, 0, 0, 0⟩).op (ops.foldl fillU ⟨op, 0, 0, 0⟩).n (ops.foldl fillU ⟨op, 0, 0, 0⟩).m (ops.foldl fillU ⟨op, 0, 0, 0⟩).imm = 0) (hits : its.length ≤ 100000) :
    Calls Tryz.prog 134 #[.pointer (some ⟨gu, 0, none⟩), .string name, .slice oa ops.length oc] w fun r w' => r = .returned (.int .i64 0) ∧ UR w' B gu e ln nv lm pp pv rv (its ++ [plainI ln (ops.foldl fillU ⟨op, 0, 0, 0⟩).op (ops.foldl fillU ⟨op, 0, 0, 0⟩).n (ops.foldl fillU ⟨op, 0, 0, 0⟩).m (ops.foldl fillU ⟨op, 0, 0, 0⟩).imm]) ∧ Fr gu B w w' ∧ KeepM w w' := by
  have kpO : ∀ {W : World}, Below w.heap.size w W → OpsR W oa ops := fun {W} hb => hr.keep fun hq => by rw [hb.block _ (blk_lt hq)]; exact hq
  have HFO := Lib.hid fun W (hb : Below w.heap.size w W) => formOf_any ops oa oc W (kpO hb) hn hkd
  have HFD := Lib.hid fun W (hb : Below w.heap.size w W) => find_any name ⟨(formU ops).toArray⟩ W (hL.below hb hL.sz) (hF.below hb hF.sz)
  have HFL := Lib.hid fun W (hb : Below w.heap.size w W) => filled_any op ops oa oc W (hL.below hb hL.sz) (kpO hb) hn hnm
  rw [hop] at HFD
  rw [hw] at HFL
  have HPL := Lib.hid fun W => plain_any (ops.foldl fillU ⟨op, 0, 0, 0⟩).op (ops.foldl fillU ⟨op, 0, 0, 0⟩).n (ops.foldl fillU ⟨op, 0, 0, 0⟩).m (ops.foldl fillU ⟨op, 0, 0, 0⟩).imm W
  have HU := Lib.hid h
  have HAD := Lib.hid fun W g (hb : Below w.heap.size w W) (hg : W.heap[g]? = some (.cells #[.int .i64 (ops.foldl fillU ⟨op, 0, 0, 0⟩).op, .int .i64 (ops.foldl fillU ⟨op, 0, 0, 0⟩).n, .int .i64 (ops.foldl fillU ⟨op, 0, 0, 0⟩).m, .int .i64 (ops.foldl fillU ⟨op, 0, 0, 0⟩).imm] 71 (0, 0))) => uadd_more gu B e nv lm pp pv rv .nilFunc (.func (.func 205) #[] #[.pointer (some ⟨g, 0, none⟩)]) ln 0 (plainI ln (ops.foldl fillU ⟨op, 0, 0, 0⟩).op (ops.foldl fillU ⟨op, 0, 0, 0⟩).n (ops.foldl fillU ⟨op, 0, 0, 0⟩).m (ops.foldl fillU ⟨op, 0, 0, 0⟩).imm) its W (HU.out.go hb) rfl ⟨rfl, g, rfl, hg⟩ hits
  have HFW : Hid (∀ W W', Below w.heap.size w W → Fr gu B W W' → Fr gu B w W') := fun W W' hb hf => (Fr.below (hb.mono HU.out.le)).trans hf
  unfold itV at HPL HAD
  simp only [plainI] at HAD
  have hf1 : (formU ops == [61, 114]) = false := beq_eq_false_iff_ne.2 hnot
  have h0' : (op == 0) = false := beq_eq_false_iff_ne.2 h0
  clear hL hF hr kpO hkd hnm hw h
  generalize ops.foldl fillU ⟨op, 0, 0, 0⟩ = fi at *
  obtain ⟨fo, fn, fm, fi⟩ := fi
  simp only at *
  obtain ⟨FM, hFM⟩ : ∃ FM, formU ops = FM := ⟨_, rfl⟩
  rw [hFM] at HFO HFD hf1 hpl
  clear hFM hop hnot
  have HHP : Hid (∀ W, Calls Tryz.prog 145 #[.string ⟨FM.toArray⟩, .string ⟨#[112]⟩] W fun e w' => e = .returned (.bool false) ∧ W = w') := fun W => by
    refine (Tryz.strings_HasPrefix ⟨FM.toArray⟩ ⟨#[112]⟩ W).mono ?_
    rintro e w' ⟨rfl, rfl⟩
    refine ⟨?_, rfl⟩
    congr 2
    simp only
    cases FM with
    | nil => rfl
    | cons a r =>
      have ha : a ≠ 112 := by simpa using hpl
      show (List.isPrefixOf [112] (a :: r)) = false
      simp only [List.isPrefixOf, Bool.and_eq_false_iff, beq_eq_false_iff_ne]
      exact .inl (Ne.symm ha)
  go_enter Tryz.func134, Tryz.ntmps134
  go_wp2_with fail
  refine (HFO.out _ (by go_grown)).mono ?_
  rintro e w1 ⟨rfl, hb1⟩
  have hB1 : Below w.heap.size w w1 := Below.trans (by go_grown) (hb1.mono (by go_size))
  have xu : w1.heap[w.heap.size]? = some (.cells #[.pointer (some ⟨gu, 0, none⟩)] 185 (0, 0)) := by rw [hb1.block _ (by go_size), old2 _ _ (by go_size)]; exact new_at _ _ rfl
  have xl : w1.heap[w.heap.size + 1]? = some (.cells #[.slice oa ops.length oc] 191 (0, 0)) := by rw [hb1.block _ (by go_size)]; exact new_at _ _ (by go_size)
  have HB1 := Lib.hid hB1
  have XU := Lib.hid xu
  have XL := Lib.hid xl
  have a0 : w1.cell? ⟨w.heap.size, 0, none⟩ = some (.pointer (some ⟨gu, 0, none⟩)) := blk_cell xu rfl
  have a1 : w1.cell? ⟨w.heap.size + 1, 0, none⟩ = some (.slice oa ops.length oc) := blk_cell xl rfl
  have z1 := blk_lt xl
  clear hb1 hB1 xu xl HFO
  go_wp2_with (first | (go_at_call 170; refine (HFD.out _ HB1.out).mono ?_; rintro e w2 ⟨rfl, hb2⟩; have HB2 := Lib.hid (HB1.out.trans (hb2.mono HB1.out.size)); have XU2 := Lib.hid ((hb2.block _ (blk_lt XU.out)).trans XU.out); have XL2 := Lib.hid ((hb2.block _ (blk_lt XL.out)).trans XL.out); have b0 : w2.cell? ⟨w.heap.size, 0, none⟩ = some (.pointer (some ⟨gu, 0, none⟩)) := blk_cell XU2.out rfl; have b1 : w2.cell? ⟨w.heap.size + 1, 0, none⟩ = some (.slice oa ops.length oc) := blk_cell XL2.out rfl; have z2 := blk_lt XL2.out; clear hb2) | fail)
  all_goals
    refine (HFL.out _ HB2.out).mono ?_
    rintro e w3 ⟨rfl, hb3⟩
    have HB3 := Lib.hid (HB2.out.trans (hb3.mono HB2.out.size))
    have XU3 := Lib.hid ((hb3.block _ (blk_lt XU2.out)).trans XU2.out)
    have d0 : w3.cell? ⟨w.heap.size, 0, none⟩ = some (.pointer (some ⟨gu, 0, none⟩)) := blk_cell XU3.out rfl
    have z3 := blk_lt XU3.out
    clear hb3 a0 a1 b0 b1
    go_wp2_with fail
  all_goals
    refine (HHP.out _).mono ?_
    rintro e w4 ⟨rfl, rfl⟩
    go_wp2_with fail
    have HB4 : Hid (Below w.heap.size w ((w3.alloc (.cells #[.int .i64 fo, .int .i64 fn, .int .i64 fm, .int .i64 fi] 71)).drew)) := (HB3.out.alloc HB3.out.size _).drew
    have XU4 : Hid ((w3.alloc (.cells #[.int .i64 fo, .int .i64 fn, .int .i64 fm, .int .i64 fi] 71)).drew.heap[w.heap.size]? = some (.cells #[.pointer (some ⟨gu, 0, none⟩)] 185 (0, 0))) := (old2 _ _ z3).trans XU3.out
    clear HB1 HB2 HFD HFL HHP XU XL XU2 XL2
    go_region_with (first
      | (go_at_call 173; refine (HPL.out _).mono ?_; rintro e w5 ⟨⟨g, rfl, _, hgi⟩, hb5⟩; have HB5 := Lib.hid (HB4.out.trans (hb5.mono HB4.out.size)); have xu5 := (hb5.block _ (blk_lt XU4.out)).trans XU4.out; have e0 : w5.cell? ⟨w.heap.size, 0, none⟩ = some (.pointer (some ⟨gu, 0, none⟩)) := blk_cell xu5 rfl; have z5 := blk_lt xu5; have HGI := Lib.hid hgi; clear hb5 xu5 hgi)
      | (go_at_call 94; refine (HAD.out _ _ HB5.out HGI.out).mono ?_; rintro e w6 ⟨rfl, hu6, hf6, hk6⟩))
  all_goals
    have HU6 := Lib.hid hu6
    have HF6 := Lib.hid (HFW.out _ _ HB5.out hf6)
    have HK6 := Lib.hid ((KeepM.of HB5.out).trans hk6)
    clear hu6 hf6 hk6
    go_wp2_with fail
    go_ret
    exact ⟨rfl, HU6.out, HF6.out, HK6.out⟩

end Go.Proofs.YtgjmbjahgcndnaaGreatDoor

namespace Go.Proofs.YtgjmbjahgcndnaaGreatDoor
open Go.RowKit

end Go.Proofs.YtgjmbjahgcndnaaGreatDoor

namespace Go.Proofs.YtgjmbjahgcndnaaGreatDoor
open Go.RowKit

set_option maxHeartbeats 4000000 in
/-- An instruction that leads to a value's place. -/
theorem instr_lead (gu B : Nat) (e nv lm pp pv rv : Value) (ln : Int) (its : List It) (name : ByteArray) (ops : List Opd) (o1 : Opd) (nm1 : List UInt8) (ho1 : ops.head? = some o1) (hnm1 : o1.nm = ⟨nm1.toArray⟩) (oa : Option Addr) (oc : Nat) (op : Int) (w : World) (h : UR w B gu e ln nv lm pp pv rv its) (hL : Isa.Laid w) (hF : FLaid w) (hr : OpsR w oa ops) (hn : ops.length ≤ 1000) (hkd : ∀ o, o ∈ ops → o.kd.data.toList.length = 1) (hnm : ∀ o, o ∈ ops → o.kd.toList = kdN → o.nm = ⟨#[]⟩)
    (hnot : formU ops ≠ [61, 114]) (hpl : (formU ops).head? = some 112) (hop : findU name ⟨(formU ops).toArray⟩ 12 0 = op) (h0 : op ≠ 0) (hw : Isa.wrongI (ops.foldl fillU ⟨op, 0, 0, 0⟩).op (ops.foldl fillU ⟨op, 0, 0, 0⟩).n (ops.foldl fillU ⟨op, 0, 0, 0⟩).m (ops.foldl fillU ⟨op, 0, 0, 0⟩).imm = 0) (hits : its.length ≤ 100000) :
    Calls Tryz.prog 134 #[.pointer (some ⟨gu, 0, none⟩), .string name, .slice oa ops.length oc] w fun r w' => r = .returned (.int .i64 0) ∧ UR w' B gu e ln nv lm pp pv rv (its ++ [leadI ln (ops.foldl fillU ⟨op, 0, 0, 0⟩).op (ops.foldl fillU ⟨op, 0, 0, 0⟩).n (ops.foldl fillU ⟨op, 0, 0, 0⟩).m (ops.foldl fillU ⟨op, 0, 0, 0⟩).imm (.val nm1 o1.n)]) ∧ Fr gu B w w' ∧ KeepM w w' := by
  have kpO : ∀ {W : World}, Below w.heap.size w W → OpsR W oa ops := fun {W} hb => hr.keep fun hq => by rw [hb.block _ (blk_lt hq)]; exact hq
  have HFO := Lib.hid fun W (hb : Below w.heap.size w W) => formOf_any ops oa oc W (kpO hb) hn hkd
  have HFD := Lib.hid fun W (hb : Below w.heap.size w W) => find_any name ⟨(formU ops).toArray⟩ W (hL.below hb hL.sz) (hF.below hb hF.sz)
  have HFL := Lib.hid fun W (hb : Below w.heap.size w W) => filled_any op ops oa oc W (hL.below hb hL.sz) (kpO hb) hn hnm
  rw [hop] at HFD
  rw [hw] at HFL
  have HLE : Hid (∀ fc W, Below w.heap.size w W → Calls Tryz.prog 168 #[.pointer (some ⟨gu, 0, none⟩), .agg #[.int .i64 (ops.foldl fillU ⟨op, 0, 0, 0⟩).op, .int .i64 (ops.foldl fillU ⟨op, 0, 0, 0⟩).n, .int .i64 (ops.foldl fillU ⟨op, 0, 0, 0⟩).m, .int .i64 (ops.foldl fillU ⟨op, 0, 0, 0⟩).imm], .func (.func 172) #[] fc] W fun r w' => (∃ gt gi fa, r = .returned (itV 0 2 1 2 fa (.func (.func 196) #[] #[.pointer (some ⟨gt, 0, none⟩), .pointer (some ⟨gi, 0, none⟩)])) ∧ fa = (if Isa.infoShape (ops.foldl fillU ⟨op, 0, 0, 0⟩).op = 4 then .func (.func 200) #[] #[.pointer (some ⟨gt, 0, none⟩)] else .nilFunc) ∧ w'.heap[gt]? = some (.cells #[.func (.func 172) #[] fc] 269 (0, 0)) ∧ w'.heap[gi]? = some (.cells #[.int .i64 (ops.foldl fillU ⟨op, 0, 0, 0⟩).op, .int .i64 (ops.foldl fillU ⟨op, 0, 0, 0⟩).n, .int .i64 (ops.foldl fillU ⟨op, 0, 0, 0⟩).m, .int .i64 (ops.foldl fillU ⟨op, 0, 0, 0⟩).imm] 71 (0, 0))) ∧ Below W.heap.size W w') := fun fc W hb => by
    refine (leading_any gu (ops.foldl fillU ⟨op, 0, 0, 0⟩).op (ops.foldl fillU ⟨op, 0, 0, 0⟩).n (ops.foldl fillU ⟨op, 0, 0, 0⟩).m (ops.foldl fillU ⟨op, 0, 0, 0⟩).imm (.func 172) #[] fc W (hL.below hb hL.sz)).mono ?_
    rintro r w' ⟨⟨gt, gi, h1, h2, h3⟩, h4⟩
    exact ⟨⟨gt, gi, _, h1, rfl, h2, h3⟩, h4⟩
  obtain ⟨b1, len1, cur1, hoa, hol, hbc, q0, q1, q2, q3⟩ : ∃ b len cur, oa = some ⟨b, 0, none⟩ ∧ ops.length = len + 1 ∧ w.heap[b]? = some (.cells cur 235 (0, 0)) ∧ cur[0]? = some (.string o1.kd) ∧ cur[1]? = some (.int .i64 o1.r) ∧ cur[2]? = some (.string ⟨nm1.toArray⟩) ∧ cur[3]? = some (.int .i64 o1.n) := by
    cases ops with
    | nil => simp at ho1
    | cons a r =>
      have : a = o1 := by simpa using ho1
      subst this
      obtain ⟨b, e, cur, h1, h2⟩ := hr (by simp)
      obtain ⟨k0, k1, k2, k3⟩ := h2 0 (by simp)
      simp only [Nat.zero_mul, Nat.zero_add, List.getElem_cons_zero] at k0 k1 k2 k3
      exact ⟨b, r.length, cur, e, by simp, h1, k0, k1, by rw [← hnm1]; exact k2, k3⟩
  have HOB := Lib.hid hbc
  have HGR : Hid (∀ W, W.heap[w.heap.size]? = some (.cells #[.pointer (some ⟨gu, 0, none⟩)] 185 (0, 0)) → W.heap[w.heap.size + 1]? = some (.cells #[.slice oa ops.length oc] 191 (0, 0)) → Below w.heap.size w W → GoalR W gu (.func (.func 172) #[] #[.pointer (some ⟨w.heap.size, 0, none⟩), .pointer (some ⟨w.heap.size + 1, 0, none⟩)]) (.val nm1 o1.n)) := fun W h1 h2 hb => ⟨_, _, b1, len1, oc, cur1, rfl, h1, by rw [← hoa, ← hol]; exact h2, by rw [hb.block _ (blk_lt hbc)]; exact hbc, ⟨_, _, q0, q1⟩, q2, q3⟩
  have HU := Lib.hid h
  have HAD := Lib.hid fun W gt gi tv fa (hfa : fa = (if Isa.infoShape (ops.foldl fillU ⟨op, 0, 0, 0⟩).op = 4 then .func (.func 200) #[] #[.pointer (some ⟨gt, 0, none⟩)] else .nilFunc)) (hb : Below w.heap.size w W) (hgt : W.heap[gt]? = some (.cells #[tv] 269 (0, 0))) (hgi : W.heap[gi]? = some (.cells #[.int .i64 (ops.foldl fillU ⟨op, 0, 0, 0⟩).op, .int .i64 (ops.foldl fillU ⟨op, 0, 0, 0⟩).n, .int .i64 (ops.foldl fillU ⟨op, 0, 0, 0⟩).m, .int .i64 (ops.foldl fillU ⟨op, 0, 0, 0⟩).imm] 71 (0, 0))) (hgo : GoalR W gu tv (.val nm1 o1.n)) => uadd_more gu B e nv lm pp pv rv fa (.func (.func 196) #[] #[.pointer (some ⟨gt, 0, none⟩), .pointer (some ⟨gi, 0, none⟩)]) ln 0 (leadI ln (ops.foldl fillU ⟨op, 0, 0, 0⟩).op (ops.foldl fillU ⟨op, 0, 0, 0⟩).n (ops.foldl fillU ⟨op, 0, 0, 0⟩).m (ops.foldl fillU ⟨op, 0, 0, 0⟩).imm (.val nm1 o1.n)) its W (HU.out.go hb) rfl ⟨gt, gi, tv, hfa, rfl, hgt, hgi, hgo⟩ hits
  have HFW : Hid (∀ W W', Below w.heap.size w W → Fr gu B W W' → Fr gu B w W') := fun W W' hb hf => (Fr.below (hb.mono HU.out.le)).trans hf
  unfold itV at HLE HAD
  simp only [leadI] at HAD
  clear hoa hol hbc q0 q1 q2 q3
  have hf1 : (formU ops == [61, 114]) = false := beq_eq_false_iff_ne.2 hnot
  have h0' : (op == 0) = false := beq_eq_false_iff_ne.2 h0
  clear hL hF hr kpO hkd hnm hw h hnm1 ho1
  generalize ops.foldl fillU ⟨op, 0, 0, 0⟩ = fi at *
  obtain ⟨fo, fn, fm, fi⟩ := fi
  simp only at *
  obtain ⟨FM, hFM⟩ : ∃ FM, formU ops = FM := ⟨_, rfl⟩
  rw [hFM] at HFO HFD hf1 hpl
  clear hFM hop hnot
  have HHP : Hid (∀ W, Calls Tryz.prog 145 #[.string ⟨FM.toArray⟩, .string ⟨#[112]⟩] W fun e w' => e = .returned (.bool true) ∧ W = w') := fun W => by
    refine (Tryz.strings_HasPrefix ⟨FM.toArray⟩ ⟨#[112]⟩ W).mono ?_
    rintro e w' ⟨rfl, rfl⟩
    refine ⟨?_, rfl⟩
    congr 2
    simp only
    cases FM with
    | nil => simp at hpl
    | cons a r =>
      have ha : a = 112 := by simpa using hpl
      subst ha
      rfl
  go_enter Tryz.func134, Tryz.ntmps134
  go_wp2_with fail
  refine (HFO.out _ (by go_grown)).mono ?_
  rintro e w1 ⟨rfl, hb1⟩
  have hB1 : Below w.heap.size w w1 := Below.trans (by go_grown) (hb1.mono (by go_size))
  have xu : w1.heap[w.heap.size]? = some (.cells #[.pointer (some ⟨gu, 0, none⟩)] 185 (0, 0)) := by rw [hb1.block _ (by go_size), old2 _ _ (by go_size)]; exact new_at _ _ rfl
  have xl : w1.heap[w.heap.size + 1]? = some (.cells #[.slice oa ops.length oc] 191 (0, 0)) := by rw [hb1.block _ (by go_size)]; exact new_at _ _ (by go_size)
  have HB1 := Lib.hid hB1
  have XU := Lib.hid xu
  have XL := Lib.hid xl
  have a0 : w1.cell? ⟨w.heap.size, 0, none⟩ = some (.pointer (some ⟨gu, 0, none⟩)) := blk_cell xu rfl
  have a1 : w1.cell? ⟨w.heap.size + 1, 0, none⟩ = some (.slice oa ops.length oc) := blk_cell xl rfl
  have z1 := blk_lt xl
  clear hb1 hB1 xu xl HFO
  go_wp2_with (first | (go_at_call 170; refine (HFD.out _ HB1.out).mono ?_; rintro e w2 ⟨rfl, hb2⟩; have HB2 := Lib.hid (HB1.out.trans (hb2.mono HB1.out.size)); have XU2 := Lib.hid ((hb2.block _ (blk_lt XU.out)).trans XU.out); have XL2 := Lib.hid ((hb2.block _ (blk_lt XL.out)).trans XL.out); have b0 : w2.cell? ⟨w.heap.size, 0, none⟩ = some (.pointer (some ⟨gu, 0, none⟩)) := blk_cell XU2.out rfl; have b1 : w2.cell? ⟨w.heap.size + 1, 0, none⟩ = some (.slice oa ops.length oc) := blk_cell XL2.out rfl; have z2 := blk_lt XL2.out; clear hb2) | fail)
  all_goals
    refine (HFL.out _ HB2.out).mono ?_
    rintro e w3 ⟨rfl, hb3⟩
    have HB3 := Lib.hid (HB2.out.trans (hb3.mono HB2.out.size))
    have XU3 := Lib.hid ((hb3.block _ (blk_lt XU2.out)).trans XU2.out)
    have d0 : w3.cell? ⟨w.heap.size, 0, none⟩ = some (.pointer (some ⟨gu, 0, none⟩)) := blk_cell XU3.out rfl
    have z3 := blk_lt XU3.out
    have XL3 := Lib.hid ((hb3.block _ (blk_lt XL2.out)).trans XL2.out)
    have zl3 := blk_lt XL3.out
    clear hb3 a0 a1 b0 b1
    go_wp2_with fail
  all_goals
    refine (HHP.out _).mono ?_
    rintro e w4 ⟨rfl, rfl⟩
    go_wp2_with fail
    have HB4 : Hid (Below w.heap.size w ((w3.alloc (.cells #[.int .i64 fo, .int .i64 fn, .int .i64 fm, .int .i64 fi] 71)).drew)) := (HB3.out.alloc HB3.out.size _).drew
    have XU4 : Hid ((w3.alloc (.cells #[.int .i64 fo, .int .i64 fn, .int .i64 fm, .int .i64 fi] 71)).drew.heap[w.heap.size]? = some (.cells #[.pointer (some ⟨gu, 0, none⟩)] 185 (0, 0))) := (old2 _ _ z3).trans XU3.out
    have XL4 : Hid ((w3.alloc (.cells #[.int .i64 fo, .int .i64 fn, .int .i64 fm, .int .i64 fi] 71)).drew.heap[w.heap.size + 1]? = some (.cells #[.slice oa ops.length oc] 191 (0, 0))) := (old2 _ _ zl3).trans XL3.out
    clear HB1 HB2 HFD HFL HHP XU XL XU2 XL2
    have xi4 : (w3.alloc (.cells #[.int .i64 fo, .int .i64 fn, .int .i64 fm, .int .i64 fi] 71)).drew.heap[w3.heap.size]? = some (.cells #[.int .i64 fo, .int .i64 fn, .int .i64 fm, .int .i64 fi] 71 (0, 0)) := new_at _ _ rfl
    refine wp_region_noPanic ?_
    refine wp_region_held_drew (S := fun X => X.heap[w.heap.size]? = some (.cells #[.pointer (some ⟨gu, 0, none⟩)] 185 (0, 0)) ∧ X.heap[w3.heap.size]? = some (.cells #[.int .i64 fo, .int .i64 fn, .int .i64 fm, .int .i64 fi] 71 (0, 0))) (by kernel_rfl) ⟨XU4.out, xi4⟩ (fun hHeld => ?_)
    clear xi4
    refine take_at 0 56 (v := ?_) rfl rfl (by kernel_rfl) (by kernel_rfl) (by kernel_rfl) (fun _ _ _ h => h) rfl ?_ hHeld ?_
    rotate_left
    · intro w hSw
      have y0 := cell_of_block (i := 0) hSw.1 rfl
      go_simp
      try with_reducible rfl
    simp only [List.setIfInBounds_toArray, List.set_cons_zero, List.set_cons_succ]
    refine take_at 1 57 (v := ?_) rfl rfl (by kernel_rfl) (by kernel_rfl) (by kernel_rfl) (fun _ _ _ h => h) rfl ?_ hHeld ?_
    rotate_left
    · intro w hSw
      have y0 := cell_of_block (i := 0) hSw.1 rfl
      go_simp
      try with_reducible rfl
    simp only [List.setIfInBounds_toArray, List.set_cons_zero, List.set_cons_succ]
    refine take_at 2 58 (v := ?_) rfl rfl (by kernel_rfl) (by kernel_rfl) (by kernel_rfl) (fun _ _ _ h => h) rfl ?_ hHeld ?_
    rotate_left
    · intro w hSw
      have y0 := cell_of_block (i := 0) hSw.2 rfl
      have y1 := cell_of_block (i := 1) hSw.2 rfl
      have y2 := cell_of_block (i := 2) hSw.2 rfl
      have y3 := cell_of_block (i := 3) hSw.2 rfl
      go_simp
      try with_reducible rfl
    simp only [List.setIfInBounds_toArray, List.set_cons_zero, List.set_cons_succ]
    refine take_at 3 59 (v := ?_) rfl rfl (by kernel_rfl) (by kernel_rfl) (by kernel_rfl) (fun _ _ _ h => h) rfl ?_ hHeld ?_
    rotate_left
    · intro w hSw
      go_simp
      try with_reducible rfl
    simp only [List.setIfInBounds_toArray, List.set_cons_zero, List.set_cons_succ]
    refine wpAnyH_ready (rs := [4]) (by kernel_rfl) (by simp) ?_
    refine AllReadyH.cons rfl (fun K hK => ?_) AllReadyH.nil
    go_simp
    refine (HLE.out _ _ HB4.out).mono ?_
    rintro e w5 ⟨⟨gt, gi, fa, rfl, hfa, hgt, hgi⟩, hb5⟩
    have HB5 := Lib.hid (HB4.out.trans (hb5.mono HB4.out.size))
    have xu5 := (hb5.block _ (blk_lt XU4.out)).trans XU4.out
    have xl5 := (hb5.block _ (blk_lt XL4.out)).trans XL4.out
    have xi5 := (hb5.block _ (blk_lt hHeld.2)).trans hHeld.2
    have HGO := Lib.hid (HGR.out _ xu5 xl5 HB5.out)
    have hcall := Lib.hid (HAD.out _ _ _ _ _ hfa HB5.out hgt hgi HGO.out)
    clear hb5 xl5 hgt hgi hfa
    go_simp
    refine hK.out _ _ ⟨xu5, xi5⟩ (fun hHeld => ?_)
    clear hK K xu5 xi5
    refine wpAnyH_ready (rs := [5]) (by kernel_rfl) (by simp) ?_
    refine AllReadyH.cons rfl (fun K hK => ?_) AllReadyH.nil
    go_simp
    refine hcall.out.mono ?_
    rintro e w6 ⟨rfl, hu6, hf6, hk6⟩
    have hS6 := And.intro (hk6.2 _ _ hHeld.1 (by intro c f e; cases e) (by intro c f e; cases e)) (hk6.2 _ _ hHeld.2 (by intro c f e; cases e) (by intro c f e; cases e))
    go_simp
    refine hK.out _ _ hS6 (fun hHeld => ?_)
    clear hK K hS6
    refine wpAnyH_done (by kernel_rfl) ?_ _
    refine NoPanic.normal ?_
    clear hHeld hcall
  all_goals
    have HU6 := Lib.hid hu6
    have HF6 := Lib.hid (HFW.out _ _ HB5.out hf6)
    have HK6 := Lib.hid ((KeepM.of HB5.out).trans hk6)
    clear hu6 hf6 hk6
    go_wp2_with fail
    go_ret
    exact ⟨rfl, HU6.out, HF6.out, HK6.out⟩

end Go.Proofs.YtgjmbjahgcndnaaGreatDoor

namespace Go.Proofs.YtgjmbjahgcndnaaGreatDoor
open Go.RowKit

end Go.Proofs.YtgjmbjahgcndnaaGreatDoor

namespace Go.Proofs.YtgjmbjahgcndnaaGreatDoor
open Go.RowKit

/-- Words that are no instructions. -/
def dirs : List (List UInt8) := [[46, 98, 121, 116, 101], [46, 119, 111, 114, 100], [46, 108, 111, 110, 103], [46, 97, 108, 105, 103, 110], [46, 112, 111, 111, 108]]

set_option maxHeartbeats 2000000 in
theorem statement_of (gu : Nat) (name : ByteArray) (oa : Option Addr) (on oc : Nat) (w : World) (Q : World → Prop) (hn : name.toList ∉ dirs) (h : Calls Tryz.prog 134 #[.pointer (some ⟨gu, 0, none⟩), .string name, .slice oa on oc] w fun r w' => r = .returned (.int .i64 0) ∧ Q w') :
    Calls Tryz.prog 93 #[.pointer (some ⟨gu, 0, none⟩), .string name, .slice oa on oc] w fun r w' => r = .returned (.int .i64 0) ∧ Q w' := by
  have H := Lib.hid h
  simp only [dirs, List.mem_cons, List.not_mem_nil, or_false, not_or] at hn
  obtain ⟨n1, n2, n3, n4, n5⟩ := hn
  replace n1 := beq_eq_false_iff_ne.2 n1
  replace n2 := beq_eq_false_iff_ne.2 n2
  replace n3 := beq_eq_false_iff_ne.2 n3
  replace n4 := beq_eq_false_iff_ne.2 n4
  replace n5 := beq_eq_false_iff_ne.2 n5
  clear h
  go_enter Tryz.func93, Tryz.ntmps93
  go_wp2_with (first | (go_at_call 134; refine H.out.mono ?_; rintro e w1 ⟨rfl, hq⟩) | fail)
  go_ret
  exact ⟨rfl, hq⟩

set_option maxHeartbeats 4000000 in
/-- A line: what stands behind its labels is a word and operands. -/
theorem read_gen (gu : Nat) (v : Value) (hn : Int) (ht : ByteArray) (rest : List Tk) (ops : List Opd) (w0 w : World) (PL Q : World → Prop)
    (hlab : Calls Tryz.prog 89 #[.pointer (some ⟨gu, 0, none⟩), v] w fun r w1 => ∃ v', r = .returned (.tuple #[v', .int .i64 0]) ∧ PReads w0 v' (⟨1, hn, ht⟩ :: rest) ∧ PL w1)
    (hst : ∀ W W', PL W → Below W.heap.size W W' → PL W') (hB : ∀ W, PL W → Below w0.heap.size w0 W)
    (hop : ∀ W v2, PL W → PReads w0 v2 rest → Calls Tryz.prog 92 #[.pointer (some ⟨gu, 0, none⟩), v2] W fun r w' => (∃ oa oc, r = .returned (.tuple #[.slice oa ops.length oc, .int .i64 0]) ∧ OpsR w' oa ops) ∧ Below W.heap.size W w')
    (hs : ∀ W oa oc, PL W → OpsR W oa ops → Calls Tryz.prog 93 #[.pointer (some ⟨gu, 0, none⟩), .string ht, .slice oa ops.length oc] W fun r w' => r = .returned (.int .i64 0) ∧ Q w') (hv : ∃ ad l c, v = .slice ad l c) :
    Calls Tryz.prog 71 #[.pointer (some ⟨gu, 0, none⟩), v] w fun r w' => r = .returned (.int .i64 0) ∧ Q w' := by
  have HLB := Lib.hid hlab
  have HN := Lib.hid fun v' W (hp : PL W) (hv : PReads w0 v' (⟨1, hn, ht⟩ :: rest)) => next_at v' _ w0 W hv (hB W hp)
  have HAW := Lib.hid fun W => aword_any 1 hn ht W
  have HOP := Lib.hid hop
  have HST := Lib.hid hs
  have HGO := Lib.hid hst
  obtain ⟨ad, vl, vc, rfl⟩ := hv
  clear hlab hop hs hst hB
  unfold Tk.V tokV headT at *
  simp only [List.tail_cons] at *
  go_enter Tryz.func71, Tryz.ntmps71
  go_wp2_with fail
  refine HLB.out.mono ?_
  rintro e w1 ⟨v1, rfl, hv1, hp1⟩
  obtain ⟨ad1, cap1, hv1s, _⟩ := id hv1
  simp only [List.length_cons] at hv1s
  subst hv1s
  have HV1 := Lib.hid hv1
  have HP1 := Lib.hid hp1
  clear hv1 hp1 HLB
  go_wp2_with fail
  refine (HN.out _ _ HP1.out HV1.out).mono ?_
  rintro e w2 ⟨⟨v2, rfl, hv2⟩, hb2⟩
  obtain ⟨ad2, cap2, hv2s, _⟩ := id hv2
  subst hv2s
  have HV2 := Lib.hid hv2
  have HP2 := Lib.hid (HGO.out _ _ HP1.out hb2)
  clear hv2 hb2 HN HP1
  go_wp2_with fail
  refine (HAW.out _).mono ?_
  rintro e w3 ⟨rfl, hb3⟩
  obtain ⟨hB3, hz3, xr⟩ := box_keep hb3
  have HP3 := Lib.hid (HGO.out _ _ HP2.out hB3)
  have XR := Lib.hid xr
  clear hb3 hB3 xr HP2
  go_wp2_with fail
  refine (HOP.out _ _ HP3.out HV2.out).mono ?_
  rintro e w4 ⟨⟨oa, oc, rfl, ho4⟩, hb4⟩
  have xr4 := (hb4.block _ hz3).trans XR.out
  have t2 : w4.cell? ⟨w2.heap.size, 2, none⟩ = some (.string ht) := blk_cell xr4 rfl
  have hz4 := blk_lt xr4
  have HC := Lib.hid (HST.out w4 oa oc (HGO.out _ _ HP3.out hb4) ho4)
  clear ho4 hb4 xr4 XR HST HOP HAW HP3 HV1 HV2
  go_wp2_with (first | (go_at_call 93; refine HC.out.mono ?_; rintro e w5 ⟨rfl, hq⟩) | fail)
  go_ret
  exact ⟨rfl, hq⟩

end Go.Proofs.YtgjmbjahgcndnaaGreatDoor

namespace Go.Proofs.YtgjmbjahgcndnaaGreatDoor
open Go.RowKit

/-- A function without arguments that tells a place. -/
def Tells (W : World) (tv : Value) (p : Int) : Prop := ∃ f caps, tv = .func (.func f) #[] caps ∧ (∀ args w, (callFunc f args).run Tryz.prog w = .ok (.enter f args) w) ∧ ∀ W', Below W.heap.size W W' → Calls Tryz.prog f caps W' fun r w' => r = .returned (.tuple #[.int .i64 p, .int .i64 0]) ∧ Below W'.heap.size W' w'

theorem lead1_any (gt gi : Nat) (k : In) (tv : Value) (p s q d : Int) (b : List UInt8) (w : World) (hL : Isa.Laid w) (hgt : w.heap[gt]? = some (.cells #[tv] 269 (0, 0))) (hgi : w.heap[gi]? = some (.cells k.C 71 (0, 0))) (hT : Tells w tv q) (h0 : 0 ≤ p) (h1 : p ≤ 1000000) (h2 : -1000000000000 ≤ q) (h3 : q ≤ 1000000000000) (h6 : s ≠ 6) (hd : ledU k.op p q = .ok d) (hok : encU k.op k.n k.m d = .ok b) :
    Calls Tryz.prog 196 #[.int .i64 p, .int .i64 s, .pointer (some ⟨gt, 0, none⟩), .pointer (some ⟨gi, 0, none⟩)] w fun r w' => (∃ ca cl cc, r = .returned (.tuple #[.slice ca cl cc, .int .i64 0]) ∧ OBytes w' (.slice ca cl cc) b) ∧ Below w.heap.size w w' := by
  obtain ⟨f, caps, rfl, hent, hto⟩ := hT
  have HTO := Lib.hid hto
  have HLE := Lib.hid fun W (hb : Below w.heap.size w W) => led_any k.op k.n k.m k.imm p q d W (hL.below hb hL.sz) h0 h1 h2 h3 hd
  have HE := Lib.hid fun W (hb : Below w.heap.size w W) g (hq : W.heap[g]? = some (.cells (In.mk k.op k.n k.m d).C 71 (0, 0))) => encoded_one ⟨k.op, k.n, k.m, d⟩ g b W (hL.below hb hL.sz) hq hok
  obtain ⟨op, n, m, imm⟩ := k
  have ct : w.cell? ⟨gt, 0, none⟩ = some (.func (.func f) #[] caps) := blk_cell hgt rfl
  have c0 : w.cell? ⟨gi, 0, none⟩ = some (.int .i64 op) := blk_cell hgi rfl
  have c1 : w.cell? ⟨gi, 1, none⟩ = some (.int .i64 n) := blk_cell hgi rfl
  have c2 : w.cell? ⟨gi, 2, none⟩ = some (.int .i64 m) := blk_cell hgi rfl
  have c3 : w.cell? ⟨gi, 3, none⟩ = some (.int .i64 imm) := blk_cell hgi rfl
  have z1 := blk_lt hgt
  have z2 := blk_lt hgi
  have h6' : (s == 6) = false := beq_eq_false_iff_ne.2 h6
  clear hL hgt hgi hok hd hto
  go_enter Tryz.func196, Tryz.ntmps196
  go_wp2_with fail
  refine (HTO.out _ (Below.refl _ _)).mono ?_
  rintro e w1 ⟨rfl, hb1⟩
  rw [← hb1.cell (by exact z2)] at c0 c1 c2 c3
  have z3 : gi < w1.heap.size := Nat.lt_of_lt_of_le z2 hb1.size
  have HB1 := Lib.hid hb1
  clear hb1 HTO ct
  go_wp2_with fail
  refine (HLE.out _ HB1.out).mono ?_
  rintro e w2 ⟨rfl, hb2⟩
  have HB2 := Lib.hid (HB1.out.trans (hb2.mono HB1.out.size))
  clear hb2 HLE HB1 c0 c1 c2 c3
  go_wp2_with fail
  have hz2 := HB2.out.size
  refine (HE.out _ ((HB2.out.alloc hz2 _).alloc (by simp; omega) _) _ (new_at _ _ (by simp))).mono ?_
  rintro e w3 ⟨⟨ca, cl, cc, rfl, hob⟩, hb3⟩
  have HOB := Lib.hid hob
  have HB3 : Hid (Below w.heap.size w w3) := ((HB2.out.alloc hz2 _).alloc (by simp; omega) _).trans (hb3.mono (by simp; omega))
  clear hob hb3 HE
  go_wp2
  go_ret2
  exact ⟨⟨ca, cl, cc, rfl, HOB.out⟩, HB3.out⟩


theorem ent_ask (args : Array Value) (w : World) : (callFunc 202 args).run Tryz.prog w = .ok (.enter 202 args) w := by kernel_rfl
theorem ent_instr (args : Array Value) (w : World) : (callFunc 172 args).run Tryz.prog w = .ok (.enter 172 args) w := by kernel_rfl

/-- What a goal asks of a unit: a label that is there, with a number that is not too great; a pool that stands. -/
def GoalOk (x : SU) (w : World) : Goal → Prop
  | .val nm add => nm.length ≤ maxLen ∧ -100000000000 ≤ add ∧ add ≤ 100000000000
  | .slot g i => x.firsts g + i ≤ x.n ∧ ∃ vv mv, w.heap[g]? = some (.cells #[.int .i64 (x.firsts g), vv, mv] 184 (0, 0))

/-- Where it leads is told. -/
theorem goal_any (x : SU) (rv tv : Value) (q : Goal) (its : List It) (p : Int) (w : World) (hs : S0 x w) (hu : w.heap[x.gu]? = some (.cells (x.C rv) 141 (0, 0))) (hg : GoalR w x.gu tv q) (hok : GoalOk x w q) (hp : goalU ⟨x.labs, its, x.firsts⟩ x.ps q = .ok p) : Tells w tv p := by
  have hu' : ∃ c, w.heap[x.gu]? = some (.cells c 141 (0, 0)) := ⟨_, hu⟩
  cases q with
  | val nm add =>
    obtain ⟨gb, gl, b, len, c, cur, rfl, k1, k2, k3, ⟨kd, r, k4, k5⟩, k6, k7⟩ := hg
    obtain ⟨o1, o2, o3⟩ := hok
    unfold goalU placeU at hp
    simp only at hp
    have hn : nm ≠ [] := by
      intro e
      rw [if_pos e] at hp
      exact absurd hp (by simp)
    rw [if_neg hn] at hp
    cases hl : labelAt nm x.labs with
    | none => rw [hl] at hp; exact absurd hp (by simp)
    | some k =>
      rw [hl] at hp
      simp only at hp
      injection hp with hp
      subst hp
      refine ⟨_, _, rfl, ent_instr, fun W hb => ?_⟩
      exact instr1_any x rv gb gl b len c k cur kd r add nm W (hs.go (Fr.below hb) hu') (by rw [hb.block _ (blk_lt hu)]; exact hu) (by rw [hb.block _ (blk_lt k1)]; exact k1) (by rw [hb.block _ (blk_lt k2)]; exact k2) (by rw [hb.block _ (blk_lt k3)]; exact k3) k4 k5 k6 k7 hn o1 hl (by omega) (by omega)
  | slot g i =>
    obtain ⟨gb, gq, gi, rfl, k1, k2, k3⟩ := hg
    obtain ⟨o1, vv, mv, o2⟩ := hok
    unfold goalU at hp
    simp only at hp
    injection hp with hp
    subst hp
    refine ⟨_, _, rfl, ent_ask, fun W hb => ?_⟩
    exact ask1_any x rv gb gq gi g i vv mv W (hs.go (Fr.below hb) hu') (by rw [hb.block _ (blk_lt hu)]; exact hu) (by rw [hb.block _ (blk_lt k1)]; exact k1) (by rw [hb.block _ (blk_lt k2)]; exact k2) (by rw [hb.block _ (blk_lt k3)]; exact k3) (by rw [hb.block _ (blk_lt o2)]; exact o2) o1

end Go.Proofs.YtgjmbjahgcndnaaGreatDoor

namespace Go.Proofs.YtgjmbjahgcndnaaGreatDoor
open Go.RowKit

theorem infoR : (Tryz.prog.info? 120).map (fun i => (i.zero, i.size, i.bytes)) = some (some (.agg #[.int .i64 0, .int .i64 0, .string ⟨#[]⟩, .int .i64 0]), 4, 40) := by kernel_rfl
theorem rcells_snoc (rs : List Re) (r : Re) : rcells (rs ++ [r]) = rcells rs ++ [.int .i64 r.pos, .int .i64 r.size, .string ⟨r.name.toArray⟩, .int .i64 r.add] := by simp [rcells, Re.cells]

/-- A reloc's place: its name, and what is added. -/
def reU (labs : List (List UInt8 × Nat)) (ps : List Int) (nm : List UInt8) (add : Int) : List UInt8 × Int :=
  match labelAt nm labs with
  | some k => ([], wrap32 (ps.getD k 0 + add))
  | none => (nm, add)

theorem signed_w (n : Int) (w : World) : Calls Tryz.prog 58 #[.int .i64 n] w fun e w' => e = .returned (.int .i64 (wrap32 n)) ∧ w' = w :=
  (Isa.signed_any n w).mono fun _ _ h => ⟨h.1.trans (ret_int (by unfold wrap32 wrap64; omega)), h.2⟩

theorem zeros_made (W : World) (n g : Nat) (hg : g = W.heap.size) (hn : n ≤ 100000) : OBytes (W.alloc (.cells (madeCells #[.int .u8 0] n) 5)) (.slice (some ⟨g, 0, none⟩) n n) (List.replicate n 0) := by
  subst hg
  refine ⟨some ⟨W.heap.size, 0, none⟩, n, by simp, by simp; unfold maxLen; omega, fun _ => ⟨W.heap.size, 0, rfl, by simp, fun i hi => ?_⟩⟩
  have hi' : i < n := by simpa using hi
  rw [Nat.zero_add, List.getElem_replicate]
  exact (World.rowIs_made W (.int .u8 0) n 5).cell hi'
theorem Ch.go {g : Nat} {o : Option Nat} {W W' W'' : World} (h : Ch g o W W') (hb : Below W'.heap.size W' W'') : Ch g o W W'' := ⟨hb.os.trans h.os, hb.tape.trans h.tape, hb.output.trans h.output, Nat.le_trans h.size hb.size, fun i hi h1 h2 => by rw [hb.block i (Nat.lt_of_lt_of_le hi h.size)]; exact h.block i hi h1 h2⟩
theorem blk_lt_cell {w : World} {b i : Nat} {v : Value} (h : w.cell? ⟨b, i, none⟩ = some v) : b < w.heap.size := World.block_lt_of_cell? w _ h

/-- A reloc put behind the others; what is still to be done is to tell the unit of it. -/
theorem reloc_tail {x : SU} {w W V w' : World} {rv v' : Value} {rs : List Re} {r : Re} {o : Obj} (h : WS x w W rv rs) (hV : Below W.heap.size W V) (hg : (V.alloc o).drew.grownBy w' rv.ownBlock) (hr : w'.ownsRow w.heap.size 120 4 v' (rs.length + 1) (rcells rs ++ [.int .i64 r.pos, .int .i64 r.size, .string ⟨r.name.toArray⟩, .int .i64 r.add])) :
    w'.cell? ⟨x.gu, 7, none⟩ = some rv ∧ w'.frozen? ⟨x.gu, 7, none⟩ = false ∧ (∀ q i, q < W.heap.size → some q ≠ rv.ownBlock → w'.cell? ⟨q, i, none⟩ = W.cell? ⟨q, i, none⟩) ∧ WS x w (w'.setCell ⟨x.gu, 7, none⟩ v') v' (rs ++ [r]) ∧ Ch x.gu rv.ownBlock W (w'.setCell ⟨x.gu, 7, none⟩ v') := by
  have hB : Below W.heap.size W (V.alloc o).drew := (hV.alloc hV.size _).drew
  have hw := h.go hB
  have hbox : w'.heap[x.gu]? = some (.cells (x.C rv) 141 (0, 0)) := (hg.block x.gu (blk_lt hw.box) (row_box hw.rel hw.box (by decide))).trans hw.box
  have hblk : ∀ q, q < W.heap.size → some q ≠ rv.ownBlock → w'.heap[q]? = W.heap[q]? := fun q hq hne => by rw [hg.block q (Nat.lt_of_lt_of_le hq hB.size) hne, hB.block q hq]
  refine ⟨blk_cell hbox rfl, blk_froz hbox, fun q i hq hne => by simp only [World.cell?, hblk q hq hne], ⟨h.st, ?_, h.ub, blk_set hbox, ?_⟩, ?_⟩
  · refine ⟨?_, ?_, ?_, ?_, fun i hi hne => ?_⟩
    · exact (gset w' x.gu 7 v').os.trans (hg.os.trans (hB.os.trans h.fr.os))
    · exact (gset w' x.gu 7 v').tape.trans (hg.tape.trans (hB.tape.trans h.fr.tape))
    · exact (gset w' x.gu 7 v').output.trans (hg.output.trans (hB.output.trans h.fr.output))
    · have := h.fr.size; have := hB.size; have := hg.size; simp; omega
    · rw [Below.heap_setCell _ _ _ _ hne, hg.block i (by have := h.fr.size; have := hB.size; omega) (fun e => by have := (h.rel.lt i e.symm).1; omega), hB.block i (by have := h.fr.size; omega)]
      exact h.fr.block i hi hne
  · rw [rcells_snoc, List.length_append]
    exact row_set hr h.lt
  · refine ⟨(gset w' x.gu 7 v').os.trans (hg.os.trans hB.os), (gset w' x.gu 7 v').tape.trans (hg.tape.trans hB.tape), (gset w' x.gu 7 v').output.trans (hg.output.trans hB.output), ?_, fun i hi h1 h2 => ?_⟩
    · have := hB.size; have := hg.size; simp; omega
    · rw [Below.heap_setCell _ _ _ _ h1]
      exact hblk i hi h2

set_option maxHeartbeats 4000000 in
theorem number1_name (x : SU) (w W : World) (rv : Value) (rs : List Re) (h : WS x w W rv rs) (p s : Int) (gb gs gv size : Nat) (nm : List UInt8) (add : Int) (hb : W.heap[gb]? = some (.cells #[.pointer (some ⟨x.gu, 0, none⟩)] 185 (0, 0))) (hgs : W.heap[gs]? = some (.cells #[.int .i64 size] 3 (0, 0))) (hgv : W.heap[gv]? = some (.cells #[.string ⟨nm.toArray⟩, .int .i64 add] 201 (0, 0)))
    (hn : nm ≠ []) (hnl : nm.length ≤ maxLen) (h2 : -1000000000000 ≤ add) (h3 : add ≤ 1000000000000) (h4 : size ≤ 4) (hr : rs.length ≤ 100000) :
    Calls Tryz.prog 136 #[.int .i64 p, .int .i64 s, .pointer (some ⟨gv, 0, none⟩), .pointer (some ⟨gs, 0, none⟩), .pointer (some ⟨gb, 0, none⟩)] W fun r W' =>
      ∃ g rv', r = .returned (.tuple #[.slice (some ⟨g, 0, none⟩) size size, .int .i64 0]) ∧ OBytes W' (.slice (some ⟨g, 0, none⟩) size size) (List.replicate size 0) ∧ WS x w W' rv' (rs ++ [⟨p, size, (reU x.labs x.ps nm add).1, (reU x.labs x.ps nm add).2⟩]) ∧ Ch x.gu rv.ownBlock W W' := by
  have hm := fun W => makeB size (by omega) W
  have HPL : Hid (∀ W', Below W.heap.size W W' → Calls Tryz.prog 137 #[.pointer (some ⟨x.gu, 0, none⟩), .agg #[.string ⟨nm.toArray⟩, .int .i64 add]] W' fun r w' => (∃ q e, r = .returned (.tuple #[.int .i64 q, .int .i64 e]) ∧ (e = 0 → [] = (reU x.labs x.ps nm add).1 ∧ wrap32 q = (reU x.labs x.ps nm add).2) ∧ (e ≠ 0 → nm = (reU x.labs x.ps nm add).1 ∧ add = (reU x.labs x.ps nm add).2)) ∧ Below W'.heap.size W' w') := fun W' hb => by
    have hs := (h.go hb).s0
    unfold reU
    cases hl : labelAt nm x.labs with
    | none =>
      refine (placeOf_none x.gu x.mb x.e x.nv x.iv x.pp _ rv x.ln add nm x.labs W' (h.go hb).box hs.lb hn hnl hl).mono ?_
      rintro r w' ⟨rfl, hb'⟩
      exact ⟨⟨0, 6, rfl, fun e => absurd e (by decide), fun _ => ⟨rfl, rfl⟩⟩, hb'⟩
    | some k =>
      refine (placeOf_found x.gu x.gp x.mb k x.n x.e x.nv x.iv x.pp rv x.ln add nm x.labs x.ps W' (h.go hb).box hs.lb hs.pl hn hnl hl (hs.lab nm k hl) hs.nn (hs.bd k).1 (hs.bd k).2 h2 h3).mono ?_
      rintro r w' ⟨rfl, hb'⟩
      exact ⟨⟨_, 0, rfl, fun _ => ⟨rfl, rfl⟩, fun e => absurd rfl e⟩, hb'⟩
  generalize (reU x.labs x.ps nm add).1 = nm' at *
  generalize (reU x.labs x.ps nm add).2 = add' at *
  have cb : W.cell? ⟨gb, 0, none⟩ = some (.pointer (some ⟨x.gu, 0, none⟩)) := blk_cell hb rfl
  have cs : W.cell? ⟨gs, 0, none⟩ = some (.int .i64 size) := blk_cell hgs rfl
  have cv0 : W.cell? ⟨gv, 0, none⟩ = some (.string ⟨nm.toArray⟩) := blk_cell hgv rfl
  have cv1 : W.cell? ⟨gv, 1, none⟩ = some (.int .i64 add) := blk_cell hgv rfl
  have z1 := blk_lt hb
  have z2 := blk_lt hgs
  have z3 := blk_lt hgv
  have hn1 : (nm == []) = false := by simpa using hn
  have H := Lib.hid h
  have CB := Lib.hid cb
  have CS := Lib.hid cs
  have hne : gs ≠ x.gu := by rintro rfl; have := hgs.symm.trans h.box; injection this with this; injection this with _ e2; exact absurd e2 (by decide)
  have HGB : Hid (some gb ≠ rv.ownBlock) := row_box h.rel hb (by decide)
  have HGS : Hid (some gs ≠ rv.ownBlock) := row_box h.rel hgs (by decide)
  clear h hb hgs hgv
  go_enter Tryz.func136, Tryz.ntmps136
  go_wp2_with fail
  refine (HPL.out _ (oalloc _ _)).mono ?_
  rintro e w1 ⟨⟨q, er, rfl, he0, he1⟩, hb1⟩
  have hB1 : Below W.heap.size W w1 := (oalloc _ _).trans (hb1.mono (by simp))
  have xr : w1.heap[W.heap.size]? = some (.cells #[.int .i64 p, .int .i64 size, .string ⟨nm.toArray⟩, .int .i64 add] 120 (0, 0)) := by rw [hb1.block _ (by simp)]; exact new_at _ _ rfl
  have H1 := Lib.hid (H.out.go hB1)
  rw [← hB1.cell (by exact z1)] at cb
  rw [← hB1.cell (by exact z2)] at cs
  rw [← hB1.cell (by exact z3)] at cv0 cv1
  have z1' := Nat.lt_of_lt_of_le z1 hB1.size
  have z2' := Nat.lt_of_lt_of_le z2 hB1.size
  have z3' := Nat.lt_of_lt_of_le z3 hB1.size
  have HB1 := Lib.hid hB1
  obtain ⟨⟨⟨u0, u1⟩, u2, u3⟩, ⟨f0, f1⟩, f2, f3⟩ := var4_of xr
  have XR := Lib.hid xr
  have HE0 := Lib.hid he0
  have HE1 := Lib.hid he1
  clear hb1 hB1 HPL xr he0 he1
  by_cases her : er = 0
  · obtain ⟨hx1, hx2⟩ := HE0.out her
    subst her hx1
    clear HE0 HE1
    have hSG : ∀ W, Calls Tryz.prog 58 #[.int .i64 q] W fun e w' => e = .returned (.int .i64 add') ∧ W = w' := fun W => by
      refine (signed_w q W).mono ?_
      rintro e w' ⟨rfl, rfl⟩
      exact ⟨by rw [hx2], rfl⟩
    have HSG := Lib.hid hSG
    clear hSG hx2
    have HVB : Hid (Below W.heap.size W ((w1.setCell ⟨W.heap.size, 2, none⟩ (.string ⟨#[]⟩)).setCell ⟨W.heap.size, 3, none⟩ (.int .i64 add'))) := (HB1.out.setCell (Nat.le_refl _) _).setCell (Nat.le_refl _) _
    have XV : Hid (((w1.setCell ⟨W.heap.size, 2, none⟩ (.string ⟨#[]⟩)).setCell ⟨W.heap.size, 3, none⟩ (.int .i64 add')).heap[W.heap.size]? = some (.cells #[.int .i64 p, .int .i64 size, .string ⟨#[]⟩, .int .i64 add'] 120 (0, 0))) := blk_set (blk_set XR.out)
    go_wp2_with (first | (go_at_call 58; refine (HSG.out _).mono ?_; rintro e w2 ⟨rfl, rfl⟩) | fail)
    generalize ((w1.setCell ⟨W.heap.size, 2, none⟩ (.string ⟨#[]⟩)).setCell ⟨W.heap.size, 3, none⟩ (.int .i64 add')) = V at *
    clear HSG
    clear u0 u1 u2 u3 f0 f1 f2 f3 XR H1 HB1 cb cs
    have hV1 := H.out.go HVB.out
    have cb' : V.cell? ⟨gb, 0, none⟩ = some (.pointer (some ⟨x.gu, 0, none⟩)) := by rw [HVB.out.cell (by exact z1)]; exact CB.out
    have cs' : V.cell? ⟨gs, 0, none⟩ = some (.int .i64 size) := by rw [HVB.out.cell (by exact z2)]; exact CS.out
    obtain ⟨⟨⟨u0, u1⟩, u2, u3⟩, _⟩ := var4_of XV.out
    obtain ⟨ra, rc, hrv⟩ := row_shape hV1.rel
    subst hrv
    have c7 : V.cell? ⟨x.gu, 7, none⟩ = some (.slice ra rs.length rc) := blk_cell hV1.box rfl
    have hgu := blk_lt hV1.box
    have hzV := HVB.out.size
    have zb : gb < V.heap.size := Nat.lt_of_lt_of_le z1 hzV
    have zs : gs < V.heap.size := Nat.lt_of_lt_of_le z2 hzV
    have zr : W.heap.size < V.heap.size := blk_lt XV.out
    have hrow : ((V.alloc (.cells #[.int .i64 p, .int .i64 size, .string ⟨#[]⟩, .int .i64 add'] 120)).drew).ownsRow w.heap.size 120 4 (.slice ra rs.length rc) rs.length (rcells rs) := hV1.rel.alloc _
    obtain ⟨v', w', happ, hr', hgr⟩ := app1 47 120 _ 4 40 Tryz.underlying47 infoR rfl (by decide) (by decide) hrow (by have := hV1.fr.size; simp; omega) [.int .i64 p, .int .i64 size, .string ⟨#[]⟩, .int .i64 add'] rfl V.heap.size (new_at _ _ rfl) (by intro u hu; simp at hu; rcases hu with rfl | rfl | rfl | rfl <;> rfl) (by omega)
    have HTL := Lib.hid (reloc_tail H.out HVB.out (r := ⟨p, size, [], add'⟩) hgr hr')
    have d7 : w'.cell? ⟨x.gu, 7, none⟩ = some (.slice ra rs.length rc) := HTL.out.1
    have e7 : w'.frozen? ⟨x.gu, 7, none⟩ = false := HTL.out.2.1
    have ds : w'.cell? ⟨gs, 0, none⟩ = some (.int .i64 size) := by rw [HTL.out.2.2.1 _ _ (blk_lt_cell CS.out) HGS.out]; exact CS.out
    have db : w'.cell? ⟨gb, 0, none⟩ = some (.pointer (some ⟨x.gu, 0, none⟩)) := by rw [HTL.out.2.2.1 _ _ (blk_lt_cell CB.out) HGB.out]; exact CB.out
    have zb' := blk_lt_cell db
    have zs' := blk_lt_cell ds
    obtain ⟨la', lc', rfl⟩ := row_shape hr'
    have hgw := Nat.lt_of_lt_of_le (show x.gu < (V.alloc (.cells #[.int .i64 p, .int .i64 size, .string ⟨#[]⟩, .int .i64 add'] 120)).drew.heap.size by go_size) hgr.size
    clear hrow hr' hgr hV1
    go_region_law (refine step_app1 rfl _ _ _ _ rfl _ _ rfl rfl happ ?_)
    all_goals
      go_wp2_with fail
      go_ret2
      exact ⟨_, _, rfl, zeros_made _ size _ (by simp) (by omega), HTL.out.2.2.2.1.go (oalloc _ _), HTL.out.2.2.2.2.go (oalloc _ _)⟩
  · obtain ⟨hx1, hx2⟩ := HE1.out her
    subst hx1 hx2
    clear HE0 HE1
    have her' : (er == 0) = false := beq_eq_false_iff_ne.2 her
    go_wp2_with fail
    have HVB := HB1
    have XV := XR
    clear u0 u1 u2 u3 f0 f1 f2 f3 XR H1 HB1 cb cs
    have hV1 := H.out.go HVB.out
    have cb' : w1.cell? ⟨gb, 0, none⟩ = some (.pointer (some ⟨x.gu, 0, none⟩)) := by rw [HVB.out.cell (by exact z1)]; exact CB.out
    have cs' : w1.cell? ⟨gs, 0, none⟩ = some (.int .i64 size) := by rw [HVB.out.cell (by exact z2)]; exact CS.out
    obtain ⟨⟨⟨u0, u1⟩, u2, u3⟩, _⟩ := var4_of XV.out
    obtain ⟨ra, rc, hrv⟩ := row_shape hV1.rel
    subst hrv
    have c7 : w1.cell? ⟨x.gu, 7, none⟩ = some (.slice ra rs.length rc) := blk_cell hV1.box rfl
    have hgu := blk_lt hV1.box
    have hzV := HVB.out.size
    have zb : gb < w1.heap.size := Nat.lt_of_lt_of_le z1 hzV
    have zs : gs < w1.heap.size := Nat.lt_of_lt_of_le z2 hzV
    have zr : W.heap.size < w1.heap.size := blk_lt XV.out
    have hrow : ((w1.alloc (.cells #[.int .i64 p, .int .i64 size, .string ⟨nm.toArray⟩, .int .i64 add] 120)).drew).ownsRow w.heap.size 120 4 (.slice ra rs.length rc) rs.length (rcells rs) := hV1.rel.alloc _
    obtain ⟨v', w', happ, hr', hgr⟩ := app1 47 120 _ 4 40 Tryz.underlying47 infoR rfl (by decide) (by decide) hrow (by have := hV1.fr.size; simp; omega) [.int .i64 p, .int .i64 size, .string ⟨nm.toArray⟩, .int .i64 add] rfl w1.heap.size (new_at _ _ rfl) (by intro u hu; simp at hu; rcases hu with rfl | rfl | rfl | rfl <;> rfl) (by omega)
    have HTL := Lib.hid (reloc_tail H.out HVB.out (r := ⟨p, size, nm, add⟩) hgr hr')
    have d7 : w'.cell? ⟨x.gu, 7, none⟩ = some (.slice ra rs.length rc) := HTL.out.1
    have e7 : w'.frozen? ⟨x.gu, 7, none⟩ = false := HTL.out.2.1
    have ds : w'.cell? ⟨gs, 0, none⟩ = some (.int .i64 size) := by rw [HTL.out.2.2.1 _ _ (blk_lt_cell CS.out) HGS.out]; exact CS.out
    have db : w'.cell? ⟨gb, 0, none⟩ = some (.pointer (some ⟨x.gu, 0, none⟩)) := by rw [HTL.out.2.2.1 _ _ (blk_lt_cell CB.out) HGB.out]; exact CB.out
    have zb' := blk_lt_cell db
    have zs' := blk_lt_cell ds
    obtain ⟨la', lc', rfl⟩ := row_shape hr'
    have hgw := Nat.lt_of_lt_of_le (show x.gu < (w1.alloc (.cells #[.int .i64 p, .int .i64 size, .string ⟨nm.toArray⟩, .int .i64 add] 120)).drew.heap.size by go_size) hgr.size
    clear hrow hr' hgr hV1
    go_region_law (refine step_app1 rfl _ _ _ _ rfl _ _ rfl rfl happ ?_)
    all_goals
      go_wp2_with fail
      go_ret2
      exact ⟨_, _, rfl, zeros_made _ size _ (by simp) (by omega), HTL.out.2.2.2.1.go (oalloc _ _), HTL.out.2.2.2.2.go (oalloc _ _)⟩

end Go.Proofs.YtgjmbjahgcndnaaGreatDoor
