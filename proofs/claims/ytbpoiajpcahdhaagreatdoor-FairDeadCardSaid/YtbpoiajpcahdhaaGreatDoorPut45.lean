/- asm: an instruction that leads, made; a value of a pool asked for. asm: instructions kept. asm: a load off the pool. -/
import Derived.Test.YtbpoiajpcahdhaaGreatDoorPut39
import Derived.Test.YtbpoiajpcahdhaaGreatDoorPut43
import Derived.Test.YtbpoiajpcahdhaaGreatDoorPut40
namespace Go.Proofs.YtbpoiajpcahdhaaGreatDoor
open Go.RowKit

end Go.Proofs.YtbpoiajpcahdhaaGreatDoor

namespace Go.Proofs.YtbpoiajpcahdhaaGreatDoor
open Go.RowKit

/-- Blocks that are neither a unit nor a row of items are as they were. -/
def KeepM (W W' : World) : Prop := W.heap.size ≤ W'.heap.size ∧ ∀ (q : Nat) (o : Obj), W.heap[q]? = some o → (∀ c f, o ≠ .cells c 133 f) → (∀ c f, o ≠ .cells c 177 f) → W'.heap[q]? = some o
theorem KeepM.of {W W' : World} (h : Below W.heap.size W W') : KeepM W W' := ⟨h.size, fun q o hb _ _ => by rw [h.block q (blk_lt hb)]; exact hb⟩
theorem KeepM.trans {A B C : World} (h : KeepM A B) (k : KeepM B C) : KeepM A C := ⟨Nat.le_trans h.1 k.1, fun q o hb h1 h2 => k.2 q o (h.2 q o hb h1 h2) h1 h2⟩

/-- An item, with its functions, is added: what stays (as uadd_any, and more of what is kept). -/
theorem uadd_more (gu B : Nat) (e nv lm pp pv rv fa by' : Value) (ln li : Int) (x : It) (its : List It) (w : World) (h : UR w B gu e ln nv lm pp pv rv its) (hx : x.line = ln) (hg : GenR w gu x fa by') (hn : its.length ≤ 100000) :
    Calls Tryz.prog 89 #[.pointer (some ⟨gu, 0, none⟩), itV li x.size x.upTo x.align fa by'] w fun r w' => r = .returned (.tuple #[]) ∧ UR w' B gu e ln nv lm pp pv rv (its ++ [x]) ∧ Fr gu B w w' ∧ KeepM w w' := by
  obtain ⟨iv, l, h1, h2, h3, h4⟩ := h.its
  obtain ⟨hfa, hby⟩ := hg.shape
  refine (add_any gu B its.length e nv lm iv pp pv rv fa by' ln li x.size x.upTo x.align (itC l) w h.le h1 h2 h.lt hn hfa hby).mono ?_
  rintro r w' ⟨rfl, ⟨iv', k1, k2⟩, k3, k4⟩
  have hk : KeepM w w' := ⟨k3.size, fun q o hb t1 t2 => by
    rw [k4 q (blk_lt hb) (by rintro rfl; rw [h1] at hb; injection hb with hb; exact t1 _ _ hb.symm) (by
      rcases h2.2 with ⟨h5, _⟩ | ⟨g, cap, cur, h5, h6, h7, _⟩
      · rw [h5]; simp [Value.ownBlock]
      · rw [h5]
        intro e0
        have e1 : q = g := by simpa [Value.ownBlock] using e0
        subst e1
        rw [h7] at hb
        injection hb with hb
        exact t2 _ _ hb.symm)]
    exact hb⟩
  have hku : KeepU w w' := ⟨hk.1, fun q c t f hb ht => hk.2 q _ hb (by rintro c' f' e0; injection e0 with _ e1; subst e1; exact absurd ht (by decide)) (by rintro c' f' e0; injection e0 with _ e1; subst e1; exact absurd ht (by decide))⟩
  refine ⟨rfl, ⟨h.lt, Nat.le_trans h.le k3.size, iv', l ++ [(x, fa, by')], k1, ?_, by simp [h3], ?_⟩, k3, hk⟩
  · have e1 : itC (l ++ [(x, fa, by')]) = itC l ++ [.int .i64 ln, .int .i64 x.size, .int .i64 x.upTo, .int .i64 x.align, fa, by'] := by simp [itC, hx]
    rw [e1, List.length_append]
    exact k2
  · intro p hp
    rcases List.mem_append.1 hp with hp | hp
    · exact (h4 p hp).keep hku
    · simp only [List.mem_singleton] at hp
      subst hp
      exact hg.keep hku

set_option maxHeartbeats 4000000 in
/-- An instruction that is whole. -/
theorem instr_plain (gu B : Nat) (e nv lm pp pv rv : Value) (ln : Int) (its : List It) (name : ByteArray) (ops : List Opd) (oa : Option Addr) (oc : Nat) (op : Int) (w : World) (h : UR w B gu e ln nv lm pp pv rv its) (hL : Isa.Laid w) (hF : FLaid w) (hr : OpsR w oa ops) (hn : ops.length ≤ 1000) (hkd : ∀ o, o ∈ ops → o.kd.data.toList.length = 1) (hnm : ∀ o, o ∈ ops → o.kd.toList = kdN → o.nm = ⟨#[]⟩)
    (hnot : formU ops ≠ [61, 114]) (hpl : (formU ops).head? ≠ some 112) (hop : findU name ⟨(formU ops).toArray⟩ 12 0 = op) (h0 : op ≠ 0) (hw : Isa.wrongI (ops.foldl fillU ⟨op, 0, 0, 0⟩).op (ops.foldl fillU ⟨op, 0, 0, 0⟩).n (ops.foldl fillU ⟨op, 0, 0, 0⟩).m (ops.foldl fillU ⟨op, 0, 0, 0⟩).imm = 0) (hits : its.length ≤ 100000) :
    Calls Tryz.prog 128 #[.pointer (some ⟨gu, 0, none⟩), .string name, .slice oa ops.length oc] w fun r w' => r = .returned (.int .i64 0) ∧ UR w' B gu e ln nv lm pp pv rv (its ++ [plainI ln (ops.foldl fillU ⟨op, 0, 0, 0⟩).op (ops.foldl fillU ⟨op, 0, 0, 0⟩).n (ops.foldl fillU ⟨op, 0, 0, 0⟩).m (ops.foldl fillU ⟨op, 0, 0, 0⟩).imm]) ∧ Fr gu B w w' ∧ KeepM w w' := by
  have kpO : ∀ {W : World}, Below w.heap.size w W → OpsR W oa ops := fun {W} hb => hr.keep fun hq => by rw [hb.block _ (blk_lt hq)]; exact hq
  have HFO := Lib.hid fun W (hb : Below w.heap.size w W) => formOf_any ops oa oc W (kpO hb) hn hkd
  have HFD := Lib.hid fun W (hb : Below w.heap.size w W) => find_any name ⟨(formU ops).toArray⟩ W (hL.below hb hL.sz) (hF.below hb hF.sz)
  have HFL := Lib.hid fun W (hb : Below w.heap.size w W) => filled_any op ops oa oc W (hL.below hb hL.sz) (kpO hb) hn hnm
  rw [hop] at HFD
  rw [hw] at HFL
  have HPL := Lib.hid fun W => plain_any (ops.foldl fillU ⟨op, 0, 0, 0⟩).op (ops.foldl fillU ⟨op, 0, 0, 0⟩).n (ops.foldl fillU ⟨op, 0, 0, 0⟩).m (ops.foldl fillU ⟨op, 0, 0, 0⟩).imm W
  have HU := Lib.hid h
  have HAD := Lib.hid fun W g (hb : Below w.heap.size w W) (hg : W.heap[g]? = some (.cells #[.int .i64 (ops.foldl fillU ⟨op, 0, 0, 0⟩).op, .int .i64 (ops.foldl fillU ⟨op, 0, 0, 0⟩).n, .int .i64 (ops.foldl fillU ⟨op, 0, 0, 0⟩).m, .int .i64 (ops.foldl fillU ⟨op, 0, 0, 0⟩).imm] 255 (0, 0))) => uadd_more gu B e nv lm pp pv rv .nilFunc (.func (.func 203) #[] #[.pointer (some ⟨g, 0, none⟩)]) ln 0 (plainI ln (ops.foldl fillU ⟨op, 0, 0, 0⟩).op (ops.foldl fillU ⟨op, 0, 0, 0⟩).n (ops.foldl fillU ⟨op, 0, 0, 0⟩).m (ops.foldl fillU ⟨op, 0, 0, 0⟩).imm) its W (HU.out.go hb) rfl ⟨rfl, g, rfl, hg⟩ hits
  have HFW : Hid (∀ W W', Below w.heap.size w W → Fr gu B W W' → Fr gu B w W') := fun W W' hb hf => (Fr.below (hb.mono HU.out.le)).trans hf
  unfold itV at HPL HAD
  simp only [plainI] at HAD
  have hf1 : (formU ops == [61, 114]) = false := beq_eq_false_iff_ne.2 hnot
  have h0' : (op == 0) = false := beq_eq_false_iff_ne.2 h0
  clear hL hF hr kpO hkd hnm hw h
  generalize ops.foldl fillU ⟨op, 0, 0, 0⟩ = fi at *
  obtain ⟨fo, fn, fm, fi⟩ := fi
  simp only at *
  obtain ⟨FM, hFM⟩ : ∃ FM, formU ops = FM := ⟨_, rfl⟩
  rw [hFM] at HFO HFD hf1 hpl
  clear hFM hop hnot
  have HHP : Hid (∀ W, Calls Tryz.prog 141 #[.string ⟨FM.toArray⟩, .string ⟨#[112]⟩] W fun e w' => e = .returned (.bool false) ∧ W = w') := fun W => by
    refine (Tryz.strings_HasPrefix ⟨FM.toArray⟩ ⟨#[112]⟩ W).mono ?_
    rintro e w' ⟨rfl, rfl⟩
    refine ⟨?_, rfl⟩
    congr 2
    simp only
    cases FM with
    | nil => rfl
    | cons a r =>
      have ha : a ≠ 112 := by simpa using hpl
      show (List.isPrefixOf [112] (a :: r)) = false
      simp only [List.isPrefixOf, Bool.and_eq_false_iff, beq_eq_false_iff_ne]
      exact .inl (Ne.symm ha)
  go_enter Tryz.func128, Tryz.ntmps128
  go_wp2_with fail
  refine (HFO.out _ (by go_grown)).mono ?_
  rintro e w1 ⟨rfl, hb1⟩
  have hB1 : Below w.heap.size w w1 := Below.trans (by go_grown) (hb1.mono (by go_size))
  have xu : w1.heap[w.heap.size]? = some (.cells #[.pointer (some ⟨gu, 0, none⟩)] 163 (0, 0)) := by rw [hb1.block _ (by go_size), old2 _ _ (by go_size)]; exact new_at _ _ rfl
  have xl : w1.heap[w.heap.size + 1]? = some (.cells #[.slice oa ops.length oc] 169 (0, 0)) := by rw [hb1.block _ (by go_size)]; exact new_at _ _ (by go_size)
  have HB1 := Lib.hid hB1
  have XU := Lib.hid xu
  have XL := Lib.hid xl
  have a0 : w1.cell? ⟨w.heap.size, 0, none⟩ = some (.pointer (some ⟨gu, 0, none⟩)) := blk_cell xu rfl
  have a1 : w1.cell? ⟨w.heap.size + 1, 0, none⟩ = some (.slice oa ops.length oc) := blk_cell xl rfl
  have z1 := blk_lt xl
  clear hb1 hB1 xu xl HFO
  go_wp2_with (first | (go_at_call 166; refine (HFD.out _ HB1.out).mono ?_; rintro e w2 ⟨rfl, hb2⟩; have HB2 := Lib.hid (HB1.out.trans (hb2.mono HB1.out.size)); have XU2 := Lib.hid ((hb2.block _ (blk_lt XU.out)).trans XU.out); have XL2 := Lib.hid ((hb2.block _ (blk_lt XL.out)).trans XL.out); have b0 : w2.cell? ⟨w.heap.size, 0, none⟩ = some (.pointer (some ⟨gu, 0, none⟩)) := blk_cell XU2.out rfl; have b1 : w2.cell? ⟨w.heap.size + 1, 0, none⟩ = some (.slice oa ops.length oc) := blk_cell XL2.out rfl; have z2 := blk_lt XL2.out; clear hb2) | fail)
  all_goals
    refine (HFL.out _ HB2.out).mono ?_
    rintro e w3 ⟨rfl, hb3⟩
    have HB3 := Lib.hid (HB2.out.trans (hb3.mono HB2.out.size))
    have XU3 := Lib.hid ((hb3.block _ (blk_lt XU2.out)).trans XU2.out)
    have d0 : w3.cell? ⟨w.heap.size, 0, none⟩ = some (.pointer (some ⟨gu, 0, none⟩)) := blk_cell XU3.out rfl
    have z3 := blk_lt XU3.out
    clear hb3 a0 a1 b0 b1
    go_wp2_with fail
  all_goals
    refine (HHP.out _).mono ?_
    rintro e w4 ⟨rfl, rfl⟩
    go_wp2_with fail
    have HB4 : Hid (Below w.heap.size w ((w3.alloc (.cells #[.int .i64 fo, .int .i64 fn, .int .i64 fm, .int .i64 fi] 255)).drew)) := (HB3.out.alloc HB3.out.size _).drew
    have XU4 : Hid ((w3.alloc (.cells #[.int .i64 fo, .int .i64 fn, .int .i64 fm, .int .i64 fi] 255)).drew.heap[w.heap.size]? = some (.cells #[.pointer (some ⟨gu, 0, none⟩)] 163 (0, 0))) := (old2 _ _ z3).trans XU3.out
    clear HB1 HB2 HFD HFL HHP XU XL XU2 XL2
    go_region_with (first
      | (go_at_call 169; refine (HPL.out _).mono ?_; rintro e w5 ⟨⟨g, rfl, _, hgi⟩, hb5⟩; have HB5 := Lib.hid (HB4.out.trans (hb5.mono HB4.out.size)); have xu5 := (hb5.block _ (blk_lt XU4.out)).trans XU4.out; have e0 : w5.cell? ⟨w.heap.size, 0, none⟩ = some (.pointer (some ⟨gu, 0, none⟩)) := blk_cell xu5 rfl; have z5 := blk_lt xu5; have HGI := Lib.hid hgi; clear hb5 xu5 hgi)
      | (go_at_call 89; refine (HAD.out _ _ HB5.out HGI.out).mono ?_; rintro e w6 ⟨rfl, hu6, hf6, hk6⟩))
  all_goals
    have HU6 := Lib.hid hu6
    have HF6 := Lib.hid (HFW.out _ _ HB5.out hf6)
    have HK6 := Lib.hid ((KeepM.of HB5.out).trans hk6)
    clear hu6 hf6 hk6
    go_wp2_with fail
    go_ret
    exact ⟨rfl, HU6.out, HF6.out, HK6.out⟩

end Go.Proofs.YtbpoiajpcahdhaaGreatDoor

namespace Go.Proofs.YtbpoiajpcahdhaaGreatDoor
open Go.RowKit

end Go.Proofs.YtbpoiajpcahdhaaGreatDoor
