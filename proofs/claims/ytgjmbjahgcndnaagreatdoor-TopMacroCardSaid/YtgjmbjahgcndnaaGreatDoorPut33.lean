import Derived.Test.YtgjmbjahgcndnaaGreatDoorPut32
set_option maxHeartbeats 4000000
set_option maxRecDepth 100000
namespace Go.Proofs.YtgjmbjahgcndnaaGreatDoor
open Go.RowKit
def OpsR (w : World) (oa : Option Addr) (ops : List Opd) : Prop := 0 < ops.length -> ∃ b, oa = some ⟨b, 0, none⟩ /\ ∃ cur, w.heap[b]? = some (.cells cur 235 (0, 0)) /\ ∀ i (h : i < ops.length), cur[i * 4]? = some (.string ops[i].kd) /\ cur[i * 4 + 1]? = some (.int .i64 ops[i].r) /\ cur[i * 4 + 2]? = some (.string ops[i].nm) /\ cur[i * 4 + 3]? = some (.int .i64 ops[i].n)
theorem OpsR.keep {w w' : World} {oa : Option Addr} {ops : List Opd} (h : OpsR w oa ops) (k : ∀ {q : Nat} {c : Array Value}, w.heap[q]? = some (.cells c 235 (0, 0)) -> w'.heap[q]? = some (.cells c 235 (0, 0))) : OpsR w' oa ops := fun h0 => by
 obtain ⟨b, e, cur, h1, h2⟩ := h h0
 exact ⟨b, e, cur, k h1, h2⟩
theorem OpsR.of_row {w : World} {B : Nat} {oa : Option Addr} {oc : Nat} {ops : List Opd} (h : w.ownsRow B 235 4 (.slice oa ops.length oc) ops.length (opC ops)) : OpsR w oa ops := fun h0 => by
 rcases id h.2 with ⟨hv, h1⟩ | ⟨g, cap, cur, hv, _, hgg, _⟩
 ·omega
 ·injection hv with e1 _ _
  subst e1
  refine ⟨g, rfl, cur, hgg, fun i hi => ?_⟩
  obtain ⟨a, b, c, d⟩ := opC_at ops i hi
  have hadd : ∀ j, (⟨g, 0, none⟩ : Addr).add j = ⟨g, 0 + j, none⟩ := fun j => by unfold Addr.add; split <;> simp_all
  have key : ∀ j v, w.cell? ⟨g, j, none⟩ = some v -> cur[j]? = some v := fun j v hv => by simpa [World.cell?, hgg] using hv
  have q0 := h.cells rfl _ _ a
  have q1 := h.cells rfl _ _ b
  have q2 := h.cells rfl _ _ c
  have q3 := h.cells rfl _ _ d
  rw [hadd, Nat.zero_add] at q0 q1 q2 q3
  exact ⟨key _ _ q0, key _ _ q1, key _ _ q2, key _ _ q3⟩
def qAq (ops : List Opd) : List UInt8 := ops.flatMap fun o => o.kd.data.toList
theorem qIV {w w' : World} {B b : Nat} {bs : List Value} (h : Lib.IsBuilderF 293 5 B b bs w) (hb : Below w.heap.size w w') : Lib.IsBuilderF 293 5 B b bs w' := by
 have hg : w.grownBy w' none := gbelow none hb (Nat.le_refl _)
 have one : ∀ p, Lib.BuilderAtF 293 5 B b p bs w -> Lib.BuilderAtF 293 5 B b p bs w' := by
  rintro p ⟨hB, v, hk, hown, hne⟩
  refine ⟨hB, v, ?_, hown.kept hg ?_, hne⟩
  ·rw [hb.block b (Array.getElem?_eq_some_iff.1 hk).1]; exact hk
  ·cases v.ownBlock with
   | none => exact Or.inl rfl
   | some _ => exact Or.inr (by simp)
 exact h.elim (fun x => Or.inl (one _ x)) (fun x => Or.inr (one _ x))
theorem qI0 (ops : List Opd) (oa : Option Addr) (oc : Nat) (w : World) (hr : OpsR w oa ops) (hn : ops.length <= 1000) (hkd : ∀ o, o ∈ ops -> o.kd.data.toList.length = 1) :
  Calls Tryz.prog 167 #[.slice oa ops.length oc] w fun r w' => r = .returned (.string ⟨(qAq ops).toArray⟩) /\ Below w.heap.size w w' := by
 have HR := Lib.hid hr
 have HKD := Lib.hid hkd
 clear hr hkd
 go_enter Tryz.func167, Tryz.ntmps167
 go_wp2_with fail
 go_loopw [8] (fun iv wr => ∃ k : Nat, k <= ops.length /\ iv = .int .i64 k /\ Hid (Lib.IsBuilderF 293 5 w.heap.size w.heap.size (Lib.byteCells (qAq (ops.take k))) wr) /\ Hid (Below w.heap.size w wr)) (fun iv _ => ops.length - (intOf iv).toNat)
 case atStart => exact ⟨0, Nat.zero_le _, rfl, Lib.IsBuilderF.of (Lib.fresh_isBuilder _ _ w), qE _ _⟩
 case round =>
  obtain ⟨k, hk, rfl, HI, HB⟩ := hrel
  by_cases hlt : k < ops.length
  ·have hk' : (k : Int) < ops.length := by omega
   obtain ⟨b, rfl, cur, hbc, hcell⟩ := HR.out (by omega)
   obtain ⟨r0, r1, r2, r3⟩ := hcell k hlt
   have hbw : wr.heap[b]? = some (.cells cur 235 (0, 0)) := by rw [HB.out.block b (qC hbc)]; exact hbc
   have k0 := qB hbw r0
   have k1 := qB hbw r1
   have k2 := qB hbw r2
   have k3 := qB hbw r3
   have hz := qC hbw
   obtain ⟨o, ho⟩ : ∃ o, ops[k]'hlt = o := ⟨_, rfl⟩
   rw [ho] at k0 k1 k2 k3
   have hko := HKD.out o (by rw [<- ho]; exact List.getElem_mem _)
   have hks : o.kd.size = 1 := by rw [<- hko, Array.length_toList]; rfl
   have HT : Hid (qAq (ops.take (k + 1)) = qAq (ops.take k) ++ o.kd.data.toList) := by
    unfold Hid
    rw [List.take_succ_eq_append_getElem hlt, ho]
    simp [qAq]
   have hfl : (qAq (ops.take k)).length <= 1000 := by
    have e1 : ∀ l : List Opd, (∀ o, o ∈ l -> o.kd.data.toList.length = 1) -> (qAq l).length = l.length := by
     intro l
     induction l with
     | nil => intro _; rfl
     | cons a r ih =>
       intro h
       have h1 := h a (by simp)
       have h2 := ih (fun o ho => h o (by simp [ho]))
       simp only [qAq, List.flatMap_cons, List.length_append, List.length_cons] at h2 ⊢
       omega
    rw [e1 _ (fun o ho => HKD.out o (List.mem_of_mem_take ho))]
    simp; omega
   have HWS : Hid (∀ W, Below wr.heap.size wr W -> Calls Tryz.prog 194 #[.pointer (some ⟨w.heap.size, 0, none⟩), .string o.kd] W fun e w' => (∃ x, e = .returned (.tuple #[.int .i64 x, .nilIface])) /\ Lib.IsBuilderF 293 5 w.heap.size w.heap.size (Lib.byteCells (qAq (ops.take k) ++ o.kd.data.toList)) w' /\ Below w.heap.size W w') := fun W hb => by
    refine (Any.Builder_WriteString_k Tryz.lays166 Tryz.Builder_Extra_166 w.heap.size w.heap.size (Lib.byteCells (qAq (ops.take k))) o.kd W (qIV HI.out hb) (by rw [Lib.byteCells_length]; omega) (Nat.le_trans HB.out.size hb.size)).mono ?_
    rintro e w' ⟨rfl, hA, hbel, hk⟩
    refine ⟨⟨_, rfl⟩, Or.inr ?_, hbel⟩
    rw [Lib.byteCells_append]
    exact hA
   clear ho hcell hbc hbw hko hks hfl r0 r1 r2 r3
   obtain ⟨kd, rg, nm, n⟩ := o
   simp only at k0 k1 k2 k3 HT HWS
   go_wp2_with fail
   refine (HWS.out _ (qE _ _)).mono ?_
   rintro e w1 ⟨⟨y, rfl⟩, hi1, hb1⟩
   have HI1 := Lib.hid hi1
   have HB1 : Hid (Below w.heap.size w w1) := (HB.out.alloc HB.out.size _).trans hb1
   clear hi1 hb1 HWS
   go_wp2_with fail
   exact ⟨⟨k + 1, by omega, by go_num, Lib.hid (by rw [HT.out]; exact HI1.out), HB1⟩, by simp [intOf]; omega⟩
  ·obtain rfl : k = ops.length := by omega
   have hk' : ¬ ((ops.length : Nat) : Int) < ops.length := by omega
   have hI := HI.out
   rw [List.take_length] at hI
   have HST := Lib.hid (Tryz.Builder_String_any_k w.heap.size w.heap.size (qAq ops) wr hI HB.out.size)
   clear hI
   go_wp2_with (first | (go_at_call 195; refine HST.out.mono ?_; rintro e w1 ⟨rfl, _, hb1, _⟩) | fail)
   go_ret
   exact ⟨rfl, HB.out.trans hb1⟩
def qBf (k : Nat) : ByteArray := [⟨#[]⟩, ⟨#[35, 114]⟩, ⟨#[114, 114]⟩, ⟨#[114]⟩, ⟨#[112]⟩, ⟨#[112]⟩, ⟨#[64]⟩, ⟨#[112, 114]⟩, ⟨#[112, 114]⟩, ⟨#[114, 64]⟩, ⟨#[64, 114]⟩, ⟨#[35]⟩].getD k ⟨#[]⟩
def qAb : Array Value := ((List.range 12).flatMap fun k => [.string (qBf k), .int .i64 (k : Int)]).toArray
def formV (k : Nat) : Value := .agg #[.string (qBf k), .int .i64 (k : Int)]
theorem qFv (w : World) : ((List.range 12).map fun k : Nat => (Instr.index 300 (.agg qAb) (.int .i64 (k : Int))).run Tryz.prog w) = (List.range 12).map fun k : Nat => .ok (formV k) w := by kernel_rfl
theorem qKF (k : Nat) (hk : k < 12) (w : World) : (Instr.index 300 (.agg qAb) (.int .i64 (k : Int))).run Tryz.prog w = .ok (.agg #[.string (qBf k), .int .i64 (k : Int)]) w := by
 have h := congrArg (fun l => l[k]?) (qFv w)
 simpa [hk, formV] using h
theorem formSize : (Tryz.prog.info? 300).map (·.size) = some qAb.size := by kernel_rfl
structure qGf (w : World) : Prop where
 sz : 6 < w.heap.size
 blk : ∃ t fr, w.heap[(6 : Nat)]? = some (.cells qAb t fr)
theorem qGf.below {B : Nat} {w w' : World} (h : qGf w) (hb : Below B w w') (hB : 6 < B) : qGf w' :=
 ⟨Nat.lt_of_lt_of_le h.sz hb.size, by rw [hb.block 6 hB]; exact h.blk⟩
def qB7 (name form : ByteArray) : Nat -> Nat -> Int
 | 0, _ => 0
 | f + 1, k => if (qBf k).toList == form.toList then (if Isa.qp name k 28 0 = 0 then qB7 name form f (k + 1) else Isa.qp name k 28 0) else qB7 name form f (k + 1)
theorem qEy (name form : ByteArray) (w : World) (hL : Isa.Laid w) (hF : qGf w) :
  Calls Tryz.prog 170 #[.string name, .string form] w fun r w' => r = .returned (.int .i64 (qB7 name form 12 0)) /\ Below w.heap.size w w' := by
 have HFI := Lib.hid fun (k : Int) W (hb : Below w.heap.size w W) => Isa.qEy name k W (hL.below hb hL.sz)
 obtain ⟨t, fr, hblk⟩ := hF.blk
 clear hL hF
 go_enter Tryz.func170, Tryz.ntmps170
 go_wp2_with (first | (refine wpList_load_row rfl 300 _ rfl 6 rfl t qAb fr _ hblk Tryz.underlying300 rfl formSize ?_) | fail)
 clear hblk
 go_loopw [9] (fun iv wr => ∃ k : Nat, k <= 12 /\ iv = .int .i64 k /\ Hid (Below w.heap.size w wr) /\ Hid (qB7 name form 12 0 = qB7 name form (12 - k) k)) (fun iv _ => 12 - (intOf iv).toNat)
 case atStart => exact ⟨0, Nat.zero_le _, rfl, Below.refl _ _, rfl⟩
 case round =>
  obtain ⟨k, hk, rfl, HB, HFU⟩ := hrel
  by_cases hlt : k < 12
  ·have hi := qKF k hlt
   have hk' : (k : Int) < 12 := by omega
   have HST : Hid (qB7 name form (12 - k) k = if (qBf k).toList == form.toList then (if Isa.qp name k 28 0 = 0 then qB7 name form (12 - (k + 1)) (k + 1) else Isa.qp name k 28 0) else qB7 name form (12 - (k + 1)) (k + 1)) := by
    unfold Hid
    rw [show 12 - k = (12 - (k + 1)) + 1 by omega]
    rfl
   have HCL := Lib.hid (HFI.out (k : Int) (wr.alloc (.cells #[.string (qBf k), .int .i64 (k : Int)] 299)) (HB.out.alloc HB.out.size _))
   generalize qBf k = fk at *
   generalize Isa.qp name k 28 0 = R at *
   by_cases h1 : fk.toList = form.toList
   ·have h1' : (fk.toList == form.toList) = true := beq_iff_eq.2 h1
    by_cases h2 : R = 0
    ·have hR : (R == 0) = true := beq_iff_eq.2 h2
     go_wp2_with (first | (go_at_call 203; refine HCL.out.mono ?_; rintro e w1 ⟨rfl, hb1⟩) | fail)
     exact ⟨⟨k + 1, by omega, by go_num, Lib.hid ((HB.out.alloc HB.out.size _).trans (hb1.mono (by have := HB.out.size; simp; omega))), Lib.hid (by rw [HFU.out, HST.out, if_pos h1', if_pos h2])⟩, by simp [intOf]; omega⟩
    ·have hR : (R == 0) = false := beq_eq_false_iff_ne.2 h2
     go_wp2_with (first | (go_at_call 203; refine HCL.out.mono ?_; rintro e w1 ⟨rfl, hb1⟩) | fail)
     go_ret
     exact ⟨qR (by rw [HFU.out, HST.out, if_pos h1', if_neg h2]), (HB.out.alloc HB.out.size _).trans (hb1.mono (by have := HB.out.size; simp; omega))⟩
   ·have h1' : (fk.toList == form.toList) = false := beq_eq_false_iff_ne.2 h1
    go_wp2_with fail
    exact ⟨⟨k + 1, by omega, by go_num, Lib.hid (HB.out.alloc HB.out.size _), Lib.hid (by rw [HFU.out, HST.out, h1']; rfl)⟩, by simp [intOf]; omega⟩
  ·have hk' : ¬ (k : Int) < 12 := by omega
   have HX : Hid (qB7 name form 12 0 = 0) := by unfold Hid; rw [HFU.out, show 12 - k = 0 by omega]; rfl
   go_wp2
   go_ret
   exact ⟨qR HX.out.symm, HB.out⟩
structure Fi where
 op : Int
 n : Int
 m : Int
 imm : Int
def kdN : List UInt8 := [35]
def kdP : List UInt8 := [112]
def qx (i : Fi) (o : Opd) : Fi := if o.kd.toList == kdN then { i with imm := o.n } else if o.kd.toList == kdP then i else { i with m := i.n, n := o.r }
theorem qIW (op : Int) (ops : List Opd) (oa : Option Addr) (oc : Nat) (w : World) (hL : Isa.Laid w) (hr : OpsR w oa ops) (hn : ops.length <= 1000) (hnm : ∀ o, o ∈ ops -> o.kd.toList = kdN -> o.nm = ⟨#[]⟩) :
  Calls Tryz.prog 171 #[.int .i64 op, .slice oa ops.length oc] w fun r w' => r = .returned (.tuple #[.agg #[.int .i64 (ops.foldl qx ⟨op, 0, 0, 0⟩).op, .int .i64 (ops.foldl qx ⟨op, 0, 0, 0⟩).n, .int .i64 (ops.foldl qx ⟨op, 0, 0, 0⟩).m, .int .i64 (ops.foldl qx ⟨op, 0, 0, 0⟩).imm], .int .i64 (Isa.qV (ops.foldl qx ⟨op, 0, 0, 0⟩).op (ops.foldl qx ⟨op, 0, 0, 0⟩).n (ops.foldl qx ⟨op, 0, 0, 0⟩).m (ops.foldl qx ⟨op, 0, 0, 0⟩).imm)]) /\ Below w.heap.size w w' := by
 have HWR := Lib.hid fun (i : Fi) W (hb : Below w.heap.size w W) => Isa.qBp i.op i.n i.m i.imm W (hL.below hb hL.sz)
 have HR := Lib.hid hr
 have HNM := Lib.hid hnm
 clear hL hr hnm
 obtain ⟨F, HFF⟩ : ∃ F, Hid (ops.foldl qx ⟨op, 0, 0, 0⟩ = F) := ⟨_, rfl⟩
 rw [HFF.out]
 obtain ⟨fo, fn, fm, fi⟩ := F
 simp only
 go_enter Tryz.func171, Tryz.ntmps171
 go_wp2_with fail
 go_loopw [13] (fun iv wr => ∃ k : Nat, k <= ops.length /\ iv = .int .i64 k /\ Hid (wr.heap[w.heap.size]? = some (.cells #[.int .i64 0, .int .i64 0, .int .i64 0, .int .i64 0] 71 (0, 0))) /\ Hid (wr.heap[w.heap.size + 1]? = some (.cells #[.int .i64 ((ops.take k).foldl qx ⟨op, 0, 0, 0⟩).op, .int .i64 ((ops.take k).foldl qx ⟨op, 0, 0, 0⟩).n, .int .i64 ((ops.take k).foldl qx ⟨op, 0, 0, 0⟩).m, .int .i64 ((ops.take k).foldl qx ⟨op, 0, 0, 0⟩).imm] 71 (0, 0))) /\ Hid (Below w.heap.size w wr)) (fun iv _ => ops.length - (intOf iv).toNat)
 case atStart => exact ⟨0, Nat.zero_le _, rfl, Lib.hid (by rw [old2 _ _ (by simp)]; exact qH _ _ rfl), qH _ _ (by simp), by unfold Hid; go_grown⟩
 case round =>
  obtain ⟨k, hk, rfl, X0, X1, HB⟩ := hrel
  by_cases hlt : k < ops.length
  ·have hk' : (k : Int) < ops.length := by omega
   obtain ⟨b, rfl, cur, hbc, hcell⟩ := HR.out (by omega)
   obtain ⟨r0, r1, r2, r3⟩ := hcell k hlt
   have hbw : wr.heap[b]? = some (.cells cur 235 (0, 0)) := by rw [HB.out.block b (qC hbc)]; exact hbc
   have k0 := qB hbw r0
   have k1 := qB hbw r1
   have k2 := qB hbw r2
   have k3 := qB hbw r3
   have hz := qC hbw
   obtain ⟨o, ho⟩ : ∃ o, ops[k]'hlt = o := ⟨_, rfl⟩
   rw [ho] at k0 k1 k2 k3
   have hon := HNM.out o (by rw [<- ho]; exact List.getElem_mem _)
   have HT : Hid ((ops.take (k + 1)).foldl qx ⟨op, 0, 0, 0⟩ = qx ((ops.take k).foldl qx ⟨op, 0, 0, 0⟩) o) := by
    unfold Hid
    rw [List.take_succ_eq_append_getElem hlt, ho, List.foldl_append]
    rfl
   obtain ⟨gi, hfi⟩ : ∃ gi, (ops.take k).foldl qx ⟨op, 0, 0, 0⟩ = gi := ⟨_, rfl⟩
   rw [hfi] at HT X1
   clear HFF
   obtain ⟨⟨⟨u0, u1⟩, u2, u3⟩, ⟨f0, f1⟩, f2, f3⟩ := qAn X1.out
   have hz1 := qC X1.out
   clear ho hcell hbc hbw hfi r0 r1 r2 r3
   obtain ⟨kd, rg, nm, n⟩ := o
   obtain ⟨fo', fn', fm', fi'⟩ := gi
   simp only at k0 k1 k2 k3 hon u0 u1 u2 u3
   by_cases h1 : kd.toList = kdN
   ·have hn0 := hon h1
    subst hn0
    have HX : Hid (qx ⟨fo', fn', fm', fi'⟩ ⟨kd, rg, ⟨#[]⟩, n⟩ = ⟨fo', fn', fm', n⟩) := by unfold Hid qx; rw [if_pos (beq_iff_eq.2 h1)]
    unfold kdN at h1
    have h1' : (kd.toList == [35]) = true := beq_iff_eq.2 h1
    go_wp2_with fail
    refine ⟨⟨k + 1, by omega, by go_num, Lib.hid ?_, Lib.hid ?_, Lib.hid ((HB.out.setCell (Nat.le_succ _) _).alloc (by simpa using HB.out.size) _)⟩, by simp [intOf]; omega⟩
    ·rw [old2 _ _ (by simp; omega), Below.heap_setCell _ _ _ _ (by show w.heap.size ≠ w.heap.size + 1; omega)]; exact X0.out
    ·rw [HT.out, HX.out, old2 _ _ (by simpa using hz1)]; exact qJ X1.out
   ·by_cases h2 : kd.toList = kdP
    ·have HX : Hid (qx ⟨fo', fn', fm', fi'⟩ ⟨kd, rg, nm, n⟩ = ⟨fo', fn', fm', fi'⟩) := by unfold Hid qx; rw [if_neg (by simpa using h1), if_pos (beq_iff_eq.2 h2)]
     unfold kdN at h1
     unfold kdP at h2
     have h1' : (kd.toList == [35]) = false := beq_eq_false_iff_ne.2 h1
     have h2' : (kd.toList == [112]) = true := beq_iff_eq.2 h2
     go_wp2_with fail
     refine ⟨⟨k + 1, by omega, by go_num, Lib.hid ?_, Lib.hid ?_, Lib.hid (HB.out.alloc HB.out.size _)⟩, by simp [intOf]; omega⟩
     ·rw [old2 _ _ (by omega)]; exact X0.out
     ·rw [HT.out, HX.out, old2 _ _ hz1]; exact X1.out
    ·have HX : Hid (qx ⟨fo', fn', fm', fi'⟩ ⟨kd, rg, nm, n⟩ = ⟨fo', rg, fn', fi'⟩) := by unfold Hid qx; rw [if_neg (by simpa using h1), if_neg (by simpa using h2)]
     unfold kdN at h1
     unfold kdP at h2
     have h1' : (kd.toList == [35]) = false := beq_eq_false_iff_ne.2 h1
     have h2' : (kd.toList == [112]) = false := beq_eq_false_iff_ne.2 h2
     go_wp2_with fail
     go_region
     all_goals
      go_wp2_with fail
      refine ⟨⟨k + 1, by omega, by go_num, Lib.hid ?_, Lib.hid ?_, Lib.hid ((((HB.out.setCell (Nat.le_succ _) _).setCell (Nat.le_succ _) _).alloc (by simpa using HB.out.size) _).drew)⟩, by simp [intOf]; omega⟩
      ·show (World.alloc _ _).heap[w.heap.size]? = _
       rw [old2 _ _ (by simp; omega), Below.heap_setCell _ _ _ _ (by show w.heap.size ≠ w.heap.size + 1; omega), Below.heap_setCell _ _ _ _ (by show w.heap.size ≠ w.heap.size + 1; omega)]; exact X0.out
      ·rw [HT.out, HX.out]
       show (World.alloc _ _).heap[w.heap.size + 1]? = _
       rw [old2 _ _ (by simpa using hz1)]
       exact qJ (qJ X1.out)
  ·obtain rfl : k = ops.length := by omega
   have hk' : ¬ ((ops.length : Nat) : Int) < ops.length := by omega
   rw [List.take_length, HFF.out] at X1
   simp only at X1
   obtain ⟨⟨⟨u0, u1⟩, u2, u3⟩, ⟨f0, f1⟩, f2, f3⟩ := qAn X1.out
   obtain ⟨⟨⟨v0, v1⟩, v2, v3⟩, ⟨g0, g1⟩, g2, g3⟩ := qAn X0.out
   have hz1 := qC X1.out
   have hz0 := qC X0.out
   go_wp2_with fail
   go_region_with (go_at_call 204; refine (HWR.out ⟨fo, fn, fm, fi⟩ _ (by repeat' first | exact HB.out | apply Below.drew)).mono ?_; rintro e w1 ⟨rfl, hb1⟩; obtain ⟨⟨⟨y0, y1⟩, y2, y3⟩, ⟨l0, l1⟩, l2, l3⟩ := qAn ((hb1.block _ hz1).trans X1.out); obtain ⟨⟨⟨p0, p1⟩, p2, p3⟩, ⟨m0, m1⟩, m2, m3⟩ := qAn ((hb1.block _ hz0).trans X0.out); have zz1 := Nat.lt_of_lt_of_le hz1 hb1.size; have zz0 := Nat.lt_of_lt_of_le hz0 hb1.size)
   all_goals
    have HB1 : Hid (Below w.heap.size w w1) := HB.out.trans (Below.mono (Below.trans (by repeat' first | exact Below.refl _ _ | apply Below.drew) hb1) HB.out.size)
    clear hb1
    go_wp2_with fail
    exact bodyPost_ret (v := .tuple #[.agg #[.int .i64 fo, .int .i64 fn, .int .i64 fm, .int .i64 fi], .int .i64 (Isa.qV fo fn fm fi)]) (by simp [results, Tryz.results171, go_sem, Act.put, p0, p1, p2, p3]) rfl ⟨rfl, (((HB1.out.setCell (Nat.le_refl _) _).setCell (Nat.le_refl _) _).setCell (Nat.le_refl _) _).setCell (Nat.le_refl _) _⟩
theorem UR.cell0 {W : World} {B gu : Nat} {e : Value} {ln : Int} {nv lm pp pv rv : Value} {its : List It} (h : UR W B gu e ln nv lm pp pv rv its) : W.cell? ⟨gu, 0, none⟩ = some e := by
 obtain ⟨iv, l, h1, _⟩ := h.its
 exact qB h1 rfl
def tkNum (n : Int) : Tk := ⟨2, n, ⟨#[]⟩⟩
theorem UR.line {w : World} {B gu : Nat} {e : Value} {ln : Int} {nv lm pp pv rv : Value} {its : List It} (h : UR w B gu e ln nv lm pp pv rv its) (p : Int) : UR (w.setCell ⟨gu, 1, none⟩ (.int .i64 p)) B gu e p nv lm pp pv rv its := by
 obtain ⟨iv, l, h1, h2, h3, h4⟩ := h.its
 exact ⟨h.lt, by simpa using h.le, iv, l, qJ h1, qAr h2 h.lt, h3, fun p hp => (h4 p hp).fr h1 (fun i _ hne => Below.heap_setCell _ _ _ _ hne)⟩
theorem qg.set {w : World} {q i : Nat} {c : Array Value} {t : TypeId} {v x : Value} {l : List UInt8} (ho : qg w x l) (h : w.heap[q]? = some (.cells c t (0, 0))) (hc : ∀ (j : Nat) (n : Int), c[j]? ≠ some (Value.int .u8 n)) : qg (w.setCell ⟨q, i, none⟩ v) x l := by
 obtain ⟨ad, cap, rfl, hm, hl⟩ := ho
 refine ⟨ad, cap, rfl, hm, fun h0 => ?_⟩
 obtain ⟨b, o, rfl, hb, hcell⟩ := hl h0
 have hne : b ≠ q := by
  intro e
  subst e
  have := hcell 0 h0
  simp only [World.cell?, h] at this
  exact hc (o + 0) _ (by simpa using this)
 refine ⟨b, o, rfl, by simpa using hb, fun j hj => ?_⟩
 have hk : (w.setCell ⟨q, i, none⟩ v).heap[b]? = w.heap[b]? := Below.heap_setCell _ _ _ _ hne
 have := hcell j hj
 simp only [World.cell?, hk] at this ⊢
 exact this
theorem qFR : ∀ (ps : List (Sc.Ln × Value)) (i : Nat) (h : i < ps.length), (Sc.lcells ps)[i * 2]? = some (.int .i64 ps[i].1.pos) /\ (Sc.lcells ps)[i * 2 + 1]? = some ps[i].2
 | [], i, h => by simp at h
 | p :: r, 0, h => by simp [Sc.lcells]
 | p :: r, i + 1, h => by
   have ih := qFR r i (by simpa using h)
   have e : Sc.lcells (p :: r) = [.int .i64 p.1.pos, p.2] ++ Sc.lcells r := by simp [Sc.lcells]
   rw [e, show (i + 1) * 2 = 2 + i * 2 by omega]
   simp only [List.getElem_cons_succ]
   refine ⟨?_, ?_⟩
   ·rw [List.getElem?_append_right (by simp)]; simpa using ih.1
   ·rw [List.getElem?_append_right (by simp; omega)]; simpa [show 2 + i * 2 + 1 - 2 = i * 2 + 1 by omega] using ih.2
theorem lin_of {w : World} {base : Nat} {v : Value} {ps : List (Sc.Ln × Value)} (h : Sc.LOwn w base v ps) : LIn w v (ps.map (·.1)) := by
 rcases id h.row.2 with ⟨hv, h0⟩ | ⟨g, cap, cur, rfl, hg, hgg, hle, hm, rest⟩
 ·exact ⟨none, 0, by rw [hv]; simp [h0], fun h => by simp at h; omega⟩
 ·refine ⟨some ⟨g, 0, none⟩, cap, by simp, fun _ => ⟨g, 0, rfl, qC hgg, fun i hi => ?_⟩⟩
  have hi' : i < ps.length := by simpa using hi
  obtain ⟨a, b⟩ := qFR ps i hi'
  have hadd : ∀ j, (⟨g, 0, none⟩ : Addr).add j = ⟨g, 0 + j, none⟩ := fun j => by unfold Addr.add; split <;> simp_all
  have k0 := h.row.cells rfl _ _ a
  have k1 := h.row.cells rfl _ _ b
  rw [hadd] at k0 k1
  simp only [List.getElem_map]
  exact ⟨ps[i].2, k0, k1, Sc.qDC (h.toks ps[i] (List.getElem_mem _))⟩
theorem qE1 (gu B : Nat) (e nv lm pp pv rv : Value) (ln : Int) (its : List It) (w : World) (h : UR w B gu e ln nv lm pp pv rv its) (hn : its.length <= 100000) (hnf : ∀ x, x ∈ its -> NoFar x) :
  Calls Tryz.prog 98 #[.pointer (some ⟨gu, 0, none⟩)] w fun r w' => r = .returned (.bool false) /\ Below w.heap.size w w' := by
 obtain ⟨iv, l, h1, h2, h3, h4⟩ := h.its
 obtain ⟨ia, ic, rfl⟩ := qG h2
 have hll : l.length = its.length := by rw [<- h3]; simp
 have c4 : w.cell? ⟨gu, 4, none⟩ = some (.slice ia its.length ic) := qB h1 rfl
 have hg := qC h1
 have H2 := Lib.hid h2
 have H4 : Hid (∀ p, p ∈ l -> p.2.1 = .nilFunc /\ ∃ a b c, p.2.2 = .func a b c) := fun p hp => ⟨(h4 p hp).noFar (hnf p.1 (by rw [<- h3]; exact List.mem_map_of_mem hp)), (h4 p hp).shape.2⟩
 clear h h1 h2 h3 h4 hnf
 have hnn : ∀ W, (binOp .neq 74 .nilFunc .nilFunc).run Tryz.prog W = .ok (.bool false) W := fun W => by kernel_rfl
 go_enter Tryz.func98, Tryz.ntmps98
 go_wp2_with fail
 go_loopw [3, 11] (fun bv iv wr => ∃ k : Nat, k <= its.length /\ iv = .int .i64 k /\ bv = .bool false /\ Hid (Below w.heap.size w wr)) (fun _ iv _ => its.length - (intOf iv).toNat)
 case atStart => exact ⟨0, Nat.zero_le _, rfl, rfl, Below.refl _ _⟩
 case round =>
  obtain ⟨k, hk, rfl, rfl, HB⟩ := hrel
  by_cases hlt : k < its.length
  ·have hk' : (k : Int) < its.length := by omega
   obtain ⟨g, cur, rfl, hgc, hcells⟩ := qDR H2.out hll hlt
   obtain ⟨hgl, i0, i1, i2, i3, i4, i5⟩ := hcells wr (HB.out.block g (qC hgc))
   obtain ⟨hf1, fa, fb, fc, hf2⟩ := H4.out (l[k]'(by omega)) (List.getElem_mem _)
   rw [hf1] at i4
   rw [hf2] at i5
   generalize (l[k]'(by omega)).1.line = li at *
   generalize (l[k]'(by omega)).1.size = sz at *
   generalize (l[k]'(by omega)).1.upTo = up at *
   generalize (l[k]'(by omega)).1.align = al at *
   clear hcells hf1 hf2 hgc
   go_wp2_with fail
   go_region
   all_goals go_wp2
   all_goals exact ⟨⟨k + 1, by omega, by go_num, rfl, (HB.out.alloc HB.out.size _).drew⟩, by simp [intOf]; omega⟩
  ·have hk' : ¬ (k : Int) < its.length := by omega
   go_wp2
   go_ret
   exact ⟨rfl, HB.out⟩
theorem qHg (w : World) (hL : Xp.qAT w) : Calls Tryz.prog 249 #[.agg #[.int .i64 3, .int .i64 0, .string ⟨#[45]⟩], .int .i64 1] w fun e w' => e = .returned (.int .i64 3) /\ Below w.heap.size w w' := by
 have := Xp.qCW ⟨3, 0, [45]⟩ 1 w hL
 rwa [show Xp.qGI 1 ⟨3, 0, [45]⟩ = 3 by decide] at this
theorem one_neg (n : Int) (w : World) : Calls Tryz.prog 265 #[.int .i64 3, .agg #[.string ⟨#[]⟩, .int .i64 n]] w fun e w' => e = .returned (.tuple #[.agg #[.string ⟨#[]⟩, .int .i64 (wrap32 (-n))], .int .i64 0]) /\ Below w.heap.size w w' := by
 have := Xp.qLh 3 ⟨[], n⟩ w (.inl rfl)
 rw [if_pos rfl, if_neg (by decide)] at this
 exact this
theorem neg_end {w w3 : World} {g q : Nat} {a : ByteArray} {b : Bool} {ev : Value} {u : Bool} {e : Int} (h : PR w g q a b ev u e false ⟨#[]⟩ 0) (hb : Below w.heap.size w w3) (x y : Value) :
  PR (((w3.setCell ⟨w.heap.size, 0, none⟩ x).setCell ⟨w.heap.size, 1, none⟩ y).setCell ⟨g, 5, none⟩ (.bool u)) g q a b ev u e false ⟨#[]⟩ 0 /\ F2 g q w (((w3.setCell ⟨w.heap.size, 0, none⟩ x).setCell ⟨w.heap.size, 1, none⟩ y).setCell ⟨g, 5, none⟩ (.bool u)) := by
 have hg := qC h.pt
 have hq := qC h.ch
 have hb2 : Below w.heap.size w ((w3.setCell ⟨w.heap.size, 0, none⟩ x).setCell ⟨w.heap.size, 1, none⟩ y) := (hb.setCell (Nat.le_refl _) _).setCell (Nat.le_refl _) _
 have h2 := h.go hb2
 refine ⟨⟨?_, ?_⟩, (F2.below hb2).trans (F2.left (gset _ g 5 _))⟩
 ·exact qJ h2.pt
 ·rw [Below.heap_setCell _ _ _ _ h2.ne.symm]
  exact h2.ch
theorem put_neg (g q : Nat) (b : Bool) (ev : Value) (u : Bool) (e : Int) (n : Int) (w : World) (hL : Xp.qAT w) (h : PR w g q ⟨#[45]⟩ b ev u e false ⟨#[]⟩ 0) :
  Calls Tryz.prog 255 #[.pointer (some ⟨g, 0, none⟩), .agg #[.string ⟨#[]⟩, .int .i64 n]] w fun r w' => r = .returned (.tuple #[]) /\ PR w' g q ⟨#[]⟩ true ev u e true ⟨#[]⟩ (wrap32 (-n)) /\ F2 g q w w' := by
 have c0 : w.cell? ⟨g, 0, none⟩ = some (.string ⟨#[45]⟩) := qB h.pt rfl
 have hq := qC h.pt
 have HW := Lib.hid (qAC ⟨#[45]⟩ (.inr rfl))
 have HK := Lib.hid fun W (hb : Below w.heap.size w W) => qHg W (KL.below hL hb)
 have HO := Lib.hid fun W => one_neg n W
 have HP := Lib.hid fun W (hp : PR W g q ⟨#[45]⟩ b ev u e false ⟨#[]⟩ 0) => qCI g q ⟨#[45]⟩ (.inr rfl) b ev u e ⟨#[]⟩ (wrap32 (-n)) W hp
 have H := Lib.hid h
 clear h hL
 go_enter Tryz.func255, Tryz.ntmps255
 go_wp2_with (go_at_call 258; refine (HW.out _).mono ?_; rintro e w1 ⟨rfl, rfl⟩)
 refine wp_loop_rounds 2 ?_
 rw [rounds_succ]
 go_wp2_with fail
 have hbx : (w.alloc (.cells #[.string ⟨#[]⟩, .int .i64 n] 201)).heap[w.heap.size]? = some (.cells #[.string ⟨#[]⟩, .int .i64 n] 201 (0, 0)) := qH _ _ rfl
 have hb1 : Below w.heap.size w (w.alloc (.cells #[.string ⟨#[]⟩, .int .i64 n] 201)) := qE _ _
 have hsz : (w.alloc (.cells #[.string ⟨#[]⟩, .int .i64 n] 201)).heap.size = w.heap.size + 1 := by simp
 generalize w.alloc (.cells #[.string ⟨#[]⟩, .int .i64 n] 201) = W1 at *
 have hg := hb1.size
 have k0 : W1.cell? ⟨g, 0, none⟩ = some (.string ⟨#[45]⟩) := (hb1.cell (by exact hq)).trans c0
 have k1 : W1.cell? ⟨w.heap.size, 0, none⟩ = some (.string ⟨#[]⟩) := qB hbx rfl
 have k2 : W1.cell? ⟨w.heap.size, 1, none⟩ = some (.int .i64 n) := qB hbx rfl
 have HX := Lib.hid hbx
 have HB1 := Lib.hid hb1
 have HSZ := Lib.hid hsz
 clear hbx hb1 hg hsz
 go_region_with (first | (go_at_call 249; refine (HK.out _ (HB1.out.drew)).mono ?_; rintro e w2 ⟨rfl, hb2⟩; have HBA := Lib.hid ((HB1.out.drew).trans (hb2.mono HB1.out.size)); have hX2 := (hb2.block _ (qC HX.out)).trans HX.out; have m1 : w2.cell? ⟨w.heap.size, 0, none⟩ = some (.string ⟨#[]⟩) := qB hX2 rfl; have m2 : w2.cell? ⟨w.heap.size, 1, none⟩ = some (.int .i64 n) := qB hX2 rfl; have HX2 := Lib.hid hX2; have HB2 := Lib.hid hb2; clear hX2 hb2) | (go_at_call 265; refine (HO.out _).mono ?_; rintro e w3 ⟨rfl, hb3⟩; have HBC := Lib.hid (HBA.out.trans (hb3.mono HBA.out.size)); have hP3 := (H.out.go HBC.out).pt; have p5 : w3.cell? ⟨g, 5, none⟩ = some (.bool u) := qB hP3 rfl; have pf5 : w3.frozen? ⟨g, 5, none⟩ = false := qD hP3; have pg : g < w3.heap.size := qC hP3; clear hP3; have hX3 := (hb3.block _ (qC HX2.out)).trans HX2.out; have q1 : w3.frozen? ⟨w.heap.size, 0, none⟩ = false := qD hX3; have q2 : w3.frozen? ⟨w.heap.size, 1, none⟩ = false := qD hX3; have n1 : w3.cell? ⟨w.heap.size, 0, none⟩ = some (.string ⟨#[]⟩) := qB hX3 rfl; have n2 : w3.cell? ⟨w.heap.size, 1, none⟩ = some (.int .i64 n) := qB hX3 rfl; have HX3 := Lib.hid hX3; have HB3 := Lib.hid hb3; clear hX3 hb3))
 all_goals cases u
 all_goals
  go_wp2_with fail
 all_goals
  rw [rounds_succ]
  go_wp2_with fail
 all_goals
  obtain ⟨hP4, hF4⟩ := neg_end H.out HBC.out (.string ⟨#[]⟩) (.int .i64 (wrap32 (-n)))
  refine (HP.out _ hP4).mono ?_
  rintro e' w5 ⟨rfl, hp5, hf5⟩
  go_wp2_with fail
  exact bodyPost_end (v := .tuple #[]) (by simp [results, Tryz.results255, go_sem]) rfl ⟨rfl, hp5, hF4.trans hf5⟩
theorem next_neg (g q : Nat) (u : Bool) (n : Int) (t : ByteArray) (w : World) (hL : Xp.qAT w) (h : PR w g q ⟨#[45]⟩ false (.slice none 0 0) u 0 false ⟨#[]⟩ 0) :
  Calls Tryz.prog 241 #[.pointer (some ⟨g, 0, none⟩), tokV 2 n t] w fun r w' => r = .returned (.int .i64 0) /\ PR w' g q ⟨#[]⟩ true (.slice none 0 0) u 0 true ⟨#[]⟩ (wrap32 (-wrap32 n)) /\ F2 g q w w' := by
 have c2 : w.cell? ⟨g, 2, none⟩ = some (.slice none 0 0) := qB h.pt rfl
 have hg := qC h.pt
 have HK : Hid (∀ W, Below w.heap.size w W -> Calls Tryz.prog 249 #[tokV 2 n t, .int .i64 1] W fun e w' => e = .returned (.int .i64 0) /\ Below W.heap.size W w') := fun W hb => by
  have := Xp.qCW (xtok 2 n t) 1 W (KL.below hL hb)
  simpa [xtok, tokV, Xp.qGI, Xp.qf, Xp.qCm] using this
 have HS : Hid (∀ W, Calls Tryz.prog 251 #[tokV 2 n t, .string ⟨#[40]⟩] W fun e w' => e = .returned (.bool false) /\ Below W.heap.size W w') := fun W => by
  have := Xp.qCd (xtok 2 n t) ⟨#[40]⟩ W
  simpa [xtok, tokV, Xp.qCm] using this
 have HF := Lib.hid fun W => qHm n t W
 have HE := Lib.hid fun W (hb : Below w.heap.size w W) => qHY (wrap32 n) W (KL.below hL hb)
 have HP := Lib.hid fun W (hb : Below w.heap.size w W) => put_neg g q false (.slice none 0 0) u 0 (wrap32 n) W (KL.below hL hb) (h.go hb)
 have HO := Lib.hid h
 try simp only [qDH] at HE
 clear h hL
 unfold tokV at *
 go_enter Tryz.func241, Tryz.ntmps241
 go_wp2_with fail
 refine (HK.out _ (qE _ _)).mono ?_
 rintro e w1 ⟨rfl, hb1⟩
 obtain ⟨hb, hz1, xr⟩ := qS hb1
 clear hb1 HK
 have x0 : w1.cell? ⟨w.heap.size, 0, none⟩ = some (.int .i64 2) := qB xr rfl
 have x1 : w1.cell? ⟨w.heap.size, 1, none⟩ = some (.int .i64 n) := qB xr rfl
 have x2 : w1.cell? ⟨w.heap.size, 2, none⟩ = some (.string t) := qB xr rfl
 have HB := Lib.hid hb
 clear hb xr
 go_wp2_with fail
 refine (HS.out _).mono ?_
 rintro e w2 ⟨rfl, hb2⟩
 replace x0 := (hb2.cell (by show w.heap.size < w1.heap.size; omega)).trans x0
 replace x1 := (hb2.cell (by show w.heap.size < w1.heap.size; omega)).trans x1
 replace x2 := (hb2.cell (by show w.heap.size < w1.heap.size; omega)).trans x2
 replace HB := Lib.hid (HB.out.trans (hb2.mono (by omega)))
 have hz2 := Nat.lt_of_lt_of_le hz1 hb2.size
 clear hb2 hz1
 go_wp2_with fail
 refine (HF.out _).mono ?_
 rintro e w3 ⟨rfl, hb3⟩
 replace HB := Lib.hid (HB.out.trans (hb3.mono (by omega)))
 have hz3 := Nat.lt_of_lt_of_le hz2 hb3.size
 have y2 := (HB.out.cell (by show g < w.heap.size; exact hg)).trans c2
 have hg3 : g < w3.heap.size := by omega
 clear hb3 hz2 x0 x1 x2
 go_wp2_with fail
 go_region_with (go_at_call 254; refine (HE.out _ (HB.out.trans (Below.drew (by go_grown)))).mono ?_; rintro e w4 ⟨rfl, hb4⟩; have HB4 : Hid (Below w.heap.size w w4) := (by refine Below.trans ?_ (hb4.mono (by go_size)); have hb := HB.out; go_grown); have hz4 : w3.heap.size < w4.heap.size := Nat.lt_of_lt_of_le (by go_size) hb4.size; first | (have zr : w4.heap[w3.heap.size + 1]? = some (.cells #[.string ⟨#[]⟩, .int .i64 0] 201 (0, 0)) := (hb4.block _ (by simp)).trans (qH _ _ (by simp)); obtain ⟨⟨z0, z1⟩, f0, f1⟩ := Xp.qo zr; have hz4 := qC zr; clear zr hb4) | clear hb4)
 all_goals
  go_wp2_with (go_at_call 255; refine (HP.out _ (by have hb := HB4.out; go_grown)).mono ?_; rintro e w5 ⟨rfl, hp5, hb5⟩)
  go_returns
  refine ⟨rfl, hp5, F2.trans (F2.below ?_) hb5⟩
  have hb := HB4.out
  go_grown
theorem qKc (g q : Nat) (u : Bool) (w : World) (h : PR w g q ⟨#[]⟩ false (.slice none 0 0) u 0 false ⟨#[]⟩ 0) :
  Calls Tryz.prog 252 #[.pointer (some ⟨g, 0, none⟩), .string ⟨#[45]⟩] w fun r w' => r = .returned (.int .i64 0) /\ PR w' g q ⟨#[45]⟩ false (.slice none 0 0) u 0 false ⟨#[]⟩ 0 /\ F2 g q w w' := by
 have c0 : w.cell? ⟨g, 0, none⟩ = some (.string ⟨#[]⟩) := qB h.pt rfl
 have f0 := qD h.pt (i := 0)
 have hg := qC h.pt
 have H := Lib.hid h
 clear h
 go_enter Tryz.func252, Tryz.ntmps252
 go_wp2
 go_ret
 refine ⟨rfl, ⟨qJ H.out.pt, ?_⟩, F2.left (gset w g 0 _)⟩
 rw [Below.heap_setCell _ _ _ _ H.out.ne.symm]
 exact H.out.ch
theorem qDr (g q : Nat) (u : Bool) (w : World) (hL : Xp.qAT w) (h : PR w g q ⟨#[]⟩ false (.slice none 0 0) u 0 false ⟨#[]⟩ 0) :
  Calls Tryz.prog 241 #[.pointer (some ⟨g, 0, none⟩), tokV 3 0 ⟨#[45]⟩] w fun r w' => r = .returned (.int .i64 0) /\ PR w' g q ⟨#[45]⟩ false (.slice none 0 0) u 0 false ⟨#[]⟩ 0 /\ F2 g q w w' := by
 have HK := Lib.hid fun W (hb : Below w.heap.size w W) => qHg W (KL.below hL hb)
 have HB := Lib.hid fun W (hb : Below w.heap.size w W) => qKc g q u W (h.go hb)
 clear h hL
 unfold tokV at *
 go_enter Tryz.func241, Tryz.ntmps241
 go_wp2_with fail
 refine (HK.out _ (qE _ _)).mono ?_
 rintro e w1 ⟨rfl, hb1⟩
 obtain ⟨hb, hz1, xr⟩ := qS hb1
 have x2 : w1.cell? ⟨w.heap.size, 2, none⟩ = some (.string ⟨#[45]⟩) := qB xr rfl
 have HB1 := Lib.hid hb
 clear hb xr hb1
 go_wp2_with (go_at_call 252; refine (HB.out _ HB1.out).mono ?_; rintro e w2 ⟨rfl, h2, h3⟩)
 go_returns
 exact ⟨rfl, h2, (F2.below HB1.out).trans h3⟩
theorem qH5 (g q : Nat) (u : Bool) (w : World) (hL : Xp.qAT w) (h : PR w g q ⟨#[]⟩ false (.slice none 0 0) u 0 false ⟨#[]⟩ 0) :
  Calls Tryz.prog 220 #[.pointer (some ⟨g, 0, none⟩), tokV 3 0 ⟨#[45]⟩] w fun r w' => r = .returned (.tuple #[]) /\ PR w' g q ⟨#[45]⟩ false (.slice none 0 0) u 0 false ⟨#[]⟩ 0 /\ F2 g q w w' := by
 have c1 : w.cell? ⟨g, 1, none⟩ = some (.bool false) := qB h.pt rfl
 have c6 : w.cell? ⟨g, 6, none⟩ = some (.int .i64 0) := qB h.pt rfl
 have hg := qC h.pt
 have HN := Lib.hid fun W (hb : Below w.heap.size w W) => qDr g q u W (KL.below hL hb) (h.go hb)
 clear h hL
 unfold tokV at *
 go_enter Tryz.func220, Tryz.ntmps220
 go_wp2_with fail
 refine (HN.out _ (qE _ _)).mono ?_
 rintro e w1 ⟨rfl, hp1, hb1⟩
 have d6 : w1.cell? ⟨g, 6, none⟩ = some (.int .i64 0) := qB hp1.pt rfl
 have f6 : w1.frozen? ⟨g, 6, none⟩ = false := qD hp1.pt
 have hg1 := qC hp1.pt
 have HP1 := Lib.hid hp1
 have HB1 := Lib.hid hb1
 clear hp1 hb1
 go_wp2
 refine bodyPost_end (v := .tuple #[]) (by simp [results, Tryz.results220, go_sem]) rfl ⟨rfl, ?_, ?_⟩
 ·exact HP1.out.go (qX HP1.out.pt rfl)
 ·exact ((F2.below (qE _ _)).trans HB1.out).trans (F2.below (qX HP1.out.pt rfl))
theorem qIA (g q : Nat) (u : Bool) (n : Int) (t : ByteArray) (w : World) (hL : Xp.qAT w) (h : PR w g q ⟨#[45]⟩ false (.slice none 0 0) u 0 false ⟨#[]⟩ 0) :
  Calls Tryz.prog 220 #[.pointer (some ⟨g, 0, none⟩), tokV 2 n t] w fun r w' => r = .returned (.tuple #[]) /\ PR w' g q ⟨#[]⟩ true (.slice none 0 0) u 0 true ⟨#[]⟩ (wrap32 (-wrap32 n)) /\ F2 g q w w' := by
 have c1 : w.cell? ⟨g, 1, none⟩ = some (.bool false) := qB h.pt rfl
 have c6 : w.cell? ⟨g, 6, none⟩ = some (.int .i64 0) := qB h.pt rfl
 have hg := qC h.pt
 have HN := Lib.hid fun W (hb : Below w.heap.size w W) => next_neg g q u n t W (KL.below hL hb) (h.go hb)
 clear h hL
 unfold tokV at *
 go_enter Tryz.func220, Tryz.ntmps220
 go_wp2_with fail
 refine (HN.out _ (qE _ _)).mono ?_
 rintro e w1 ⟨rfl, hp1, hb1⟩
 have d6 : w1.cell? ⟨g, 6, none⟩ = some (.int .i64 0) := qB hp1.pt rfl
 have f6 : w1.frozen? ⟨g, 6, none⟩ = false := qD hp1.pt
 have hg1 := qC hp1.pt
 have HP1 := Lib.hid hp1
 have HB1 := Lib.hid hb1
 clear hp1 hb1
 go_wp2
 refine bodyPost_end (v := .tuple #[]) (by simp [results, Tryz.results220, go_sem]) rfl ⟨rfl, ?_, ?_⟩
 ·exact HP1.out.go (qX HP1.out.pt rfl)
 ·exact ((F2.below (qE _ _)).trans HB1.out).trans (F2.below (qX HP1.out.pt rfl))
theorem qEM (b o cap : Nat) (n : Int) (t : ByteArray) (w : World) (hL : Xp.qAT w) (hb : b < w.heap.size) (_ : cap + 2 <= maxLen)
  (c0 : w.cell? ⟨b, o, none⟩ = some (.int .i64 3)) (c1 : w.cell? ⟨b, o + 1, none⟩ = some (.int .i64 0)) (c2 : w.cell? ⟨b, o + 2, none⟩ = some (.string ⟨#[45]⟩)) (c3 : w.cell? ⟨b, o + 3, none⟩ = some (.pointer none))
  (e0 : w.cell? ⟨b, o + 4, none⟩ = some (.int .i64 2)) (e1 : w.cell? ⟨b, o + 4 + 1, none⟩ = some (.int .i64 n)) (e2 : w.cell? ⟨b, o + 4 + 2, none⟩ = some (.string t)) (e3 : w.cell? ⟨b, o + 4 + 3, none⟩ = some (.pointer none)) :
  Calls Tryz.prog 187 #[.slice (some ⟨b, o, none⟩) 2 (cap + 2), .slice none 0 0] w fun r w' => (∃ g q, r = .returned (.pointer (some ⟨g, 0, none⟩)) /\ PR w' g q ⟨#[]⟩ true (.slice none 0 0) false 0 true ⟨#[]⟩ (wrap32 (-wrap32 n))) /\ Below w.heap.size w w' := by
 have hmm : ∀ w, (Instr.makeMap 318 none).run Tryz.prog w = .ok (.map (some w.heap.size)) (w.alloc (.map #[] 0)) := fun w => rfl
 have HL := Lib.hid hL
 have K0 := Lib.hid e0
 have K1 := Lib.hid e1
 have K2 := Lib.hid e2
 have K3 := Lib.hid e3
 clear hL e0 e1 e2 e3
 go_enter Tryz.func187, Tryz.ntmps187
 go_wp2_with fail
 refine (qDk ⟨#[]⟩ false none 0 0 _).mono ?_
 rintro e w1 ⟨⟨g, q, rfl, hg, hq, hp1⟩, hb1⟩
 have hB1 : Below w.heap.size w w1 := Below.trans (by go_grown) (hb1.mono (by go_size))
 have d0 := (hB1.cell (by show b < w.heap.size; exact hb)).trans c0
 have d1 := (hB1.cell (by show b < w.heap.size; exact hb)).trans c1
 have d2 := (hB1.cell (by show b < w.heap.size; exact hb)).trans c2
 have d3 := (hB1.cell (by show b < w.heap.size; exact hb)).trans c3
 have hb' : b < w1.heap.size := Nat.lt_of_lt_of_le hb hB1.size
 have HP1 := Lib.hid hp1
 have HB1 := Lib.hid hB1
 have hg1 := qC hp1.pt
 have hq1 := qC hp1.ch
 simp only [World.size_alloc] at hg hq
 clear hb1 hB1 hp1 c0 c1 c2 c3
 go_wp2_with fail
 have hr2 : (w1.alloc (.cells #[.slice (some ⟨b, o, none⟩) 2 (cap + 2), .pointer (some ⟨g, 0, none⟩), .pointer none, .string ⟨#[]⟩, .bool false] 325)).heap[w1.heap.size]? = some (.cells #[.slice (some ⟨b, o, none⟩) 2 (cap + 2), .pointer (some ⟨g, 0, none⟩), .pointer none, .string ⟨#[]⟩, .bool false] 325 (0, 0)) := qH _ _ rfl
 have hb2 : Below w1.heap.size w1 (w1.alloc (.cells #[.slice (some ⟨b, o, none⟩) 2 (cap + 2), .pointer (some ⟨g, 0, none⟩), .pointer none, .string ⟨#[]⟩, .bool false] 325)) := qE _ _
 generalize w1.alloc (.cells #[.slice (some ⟨b, o, none⟩) 2 (cap + 2), .pointer (some ⟨g, 0, none⟩), .pointer none, .string ⟨#[]⟩, .bool false] 325) = W2 at *
 replace d0 := (hb2.cell (by show b < w1.heap.size; exact hb')).trans d0
 replace d1 := (hb2.cell (by show b < w1.heap.size; exact hb')).trans d1
 replace d2 := (hb2.cell (by show b < w1.heap.size; exact hb')).trans d2
 replace d3 := (hb2.cell (by show b < w1.heap.size; exact hb')).trans d3
 have hz2 := qC hr2
 have x0 : W2.cell? ⟨w1.heap.size, 0, none⟩ = some (.slice (some ⟨b, o, none⟩) 2 (cap + 2)) := qB hr2 rfl
 have x1 : W2.cell? ⟨w1.heap.size, 1, none⟩ = some (.pointer (some ⟨g, 0, none⟩)) := qB hr2 rfl
 have hpt := (HP1.out.go hb2).pt
 have x6 : W2.cell? ⟨g, 6, none⟩ = some (.int .i64 0) := qB hpt rfl
 have HR2 := Lib.hid hr2
 have HB2 : Hid (Below w.heap.size w W2) := HB1.out.trans (hb2.mono (by have := HB1.out.size; omega))
 have HRD := Lib.hid (qCe w1.heap.size 0 b o 1 (cap + 2) g W2 x0 x1 x6)
 have HAD := Lib.hid fun W (hb : Below W2.heap.size W2 W) => qH5 g q false W (KL.below (KL.below HL.out HB2.out) hb) ((HP1.out.go hb2).go hb)
 have hsz := HB1.out.size
 clear hr2 hb2 hpt HB1
 unfold tokV at HAD
 refine wp_loop_rounds 3 ?_
 rw [rounds_succ]
 go_wp2_with (go_at_call 219; refine HRD.out.mono ?_; rintro e w' ⟨rfl, rfl⟩)
 go_region_with (go_at_call 220; refine (HAD.out _ (Below.refl _ _).drew).mono ?_; rintro e w3 ⟨rfl, hp3, hf3⟩; have hr3 := (hf3.block _ hz2 (by omega) (by omega)).trans HR2.out; have y0 : w3.cell? ⟨w1.heap.size, 0, none⟩ = some (.slice (some ⟨b, o, none⟩) 2 (cap + 2)) := qB hr3 rfl; have y1 : w3.frozen? ⟨w1.heap.size, 0, none⟩ = false := qD hr3; have y2 : w3.cell? ⟨w1.heap.size, 1, none⟩ = some (.pointer (some ⟨g, 0, none⟩)) := qB hr3 rfl; have hz3 := qC hr3; have HR3 := Lib.hid hr3; have HP3 := Lib.hid hp3; have HF3 := Lib.hid hf3; clear hr3 hp3 hf3)
 all_goals go_wp2_with fail
 all_goals
  have hr4 := qJ (i := 0) (v := .slice (some ⟨b, o + 4, none⟩) 1 (cap + 1)) HR3.out
  have hp4 : PR (w3.setCell ⟨w1.heap.size, 0, none⟩ (.slice (some ⟨b, o + 4, none⟩) 1 (cap + 1))) g q ⟨#[45]⟩ false (.slice none 0 0) false 0 false ⟨#[]⟩ 0 := ⟨by rw [Below.heap_setCell _ _ _ _ (by show g ≠ w1.heap.size; omega)]; exact HP3.out.pt, by rw [Below.heap_setCell _ _ _ _ (by show q ≠ w1.heap.size; omega)]; exact HP3.out.ch⟩
  have hb4 : Below w.heap.size w (w3.setCell ⟨w1.heap.size, 0, none⟩ (.slice (some ⟨b, o + 4, none⟩) 1 (cap + 1))) := (HB2.out.trans ((Below.refl _ _).drew.trans (HF3.out.to (by omega) (by omega) (by show w.heap.size <= W2.heap.size; omega)))).setCell (by omega) _
  generalize w3.setCell ⟨w1.heap.size, 0, none⟩ (.slice (some ⟨b, o + 4, none⟩) 1 (cap + 1)) = W4 at *
  clear y0 y1 y2 hz3 HR3 HP3 HF3 d0 d1 d2 d3 x0 x1 x6 HRD HAD HR2 hz2
  have d0 := (hb4.cell (by show b < w.heap.size; exact hb)).trans K0.out
  have d1 := (hb4.cell (by show b < w.heap.size; exact hb)).trans K1.out
  have d2 := (hb4.cell (by show b < w.heap.size; exact hb)).trans K2.out
  have d3 := (hb4.cell (by show b < w.heap.size; exact hb)).trans K3.out
  have hb'' : b < W4.heap.size := Nat.lt_of_lt_of_le hb hb4.size
  have hz4 := qC hr4
  have x0 : W4.cell? ⟨w1.heap.size, 0, none⟩ = some (.slice (some ⟨b, o + 4, none⟩) 1 (cap + 1)) := qB hr4 rfl
  have x1 : W4.cell? ⟨w1.heap.size, 1, none⟩ = some (.pointer (some ⟨g, 0, none⟩)) := qB hr4 rfl
  have x6 : W4.cell? ⟨g, 6, none⟩ = some (.int .i64 0) := qB hp4.pt rfl
  have HRD := Lib.hid (qCe w1.heap.size 0 b (o + 4) 0 (cap + 1) g W4 x0 x1 x6)
  have HAD := Lib.hid fun W (hb : Below W4.heap.size W4 W) => qIA g q false n t W (KL.below (KL.below HL.out hb4) hb) (hp4.go hb)
  have HR4 := Lib.hid hr4
  have HB4 := Lib.hid hb4
  unfold tokV at HAD
  clear hr4 hp4 hb4
  rw [rounds_succ]
  go_wp2_with (go_at_call 219; refine HRD.out.mono ?_; rintro e w' ⟨rfl, rfl⟩)
  go_region_with (go_at_call 220; refine (HAD.out _ (Below.refl _ _).drew).mono ?_; rintro e w5 ⟨rfl, hp5, hf5⟩; have hr5 := (hf5.block _ hz4 (by omega) (by omega)).trans HR4.out; have y0 : w5.cell? ⟨w1.heap.size, 0, none⟩ = some (.slice (some ⟨b, o + 4, none⟩) 1 (cap + 1)) := qB hr5 rfl; have y1 : w5.frozen? ⟨w1.heap.size, 0, none⟩ = false := qD hr5; have y2 : w5.cell? ⟨w1.heap.size, 1, none⟩ = some (.pointer (some ⟨g, 0, none⟩)) := qB hr5 rfl; have hz5 := qC hr5; have HR5 := Lib.hid hr5; have HP5 := Lib.hid hp5; have HF5 := Lib.hid hf5; clear hr5 hp5 hf5)
 all_goals go_wp2_with fail
 all_goals
  rw [rounds_succ]
  go_wp2_with (go_at_call 219; refine (qC6 _ _ _ _ _ (qB (qJ HR5.out) rfl)).mono ?_; rintro e w' ⟨rfl, rfl⟩)
  go_returns
  refine ⟨⟨g, q, rfl, ?_⟩, ?_⟩
  ·exact ⟨by rw [Below.heap_setCell _ _ _ _ (by show g ≠ w1.heap.size; omega)]; exact HP5.out.pt, by rw [Below.heap_setCell _ _ _ _ (by show q ≠ w1.heap.size; omega)]; exact HP5.out.ch⟩
  ·exact (HB4.out.trans ((Below.refl _ _).drew.trans (HF5.out.to (by omega) (by omega) (by show w.heap.size <= W4.heap.size; have := HB4.out.size; omega)))).setCell (by omega) _
theorem qIe (v : Value) (n : Int) (t : ByteArray) (w : World) (hL : Xp.qAT w) (h : qI w v [⟨3, 0, ⟨#[45]⟩⟩, ⟨2, n, t⟩]) :
  Calls Tryz.prog 193 #[v, .slice none 0 0] w fun r w' => r = .returned (.tuple #[.agg #[.string ⟨#[]⟩, .int .i64 (wrap32 (-wrap32 n))], .bool true, .int .i64 0]) /\ Below w.heap.size w w' := by
 obtain ⟨ad, cap, rfl, hc, hm, h⟩ := h
 obtain ⟨b, o, rfl, hb, hcell⟩ := h (by simp)
 have c := hcell 0 (by simp)
 have d := hcell 1 (by simp)
 simp only [Nat.zero_mul, Nat.one_mul, Nat.add_zero, List.getElem_cons_zero, List.getElem_cons_succ] at c d
 obtain ⟨c0, c1, c2, c3⟩ := c
 obtain ⟨e0, e1, e2, e3⟩ := d
 obtain ⟨cap, rfl⟩ : ∃ k, cap = k + 2 := ⟨cap - 2, by simp at hc; omega⟩
 have HE := Lib.hid fun W (hb' : Below w.heap.size w W) => qEM b o cap n t W (KL.below hL hb') (Nat.lt_of_lt_of_le hb hb'.size) hm (by rw [hb'.cell (by exact hb)]; exact c0) (by rw [hb'.cell (by exact hb)]; exact c1) (by rw [hb'.cell (by exact hb)]; exact c2) (by rw [hb'.cell (by exact hb)]; exact c3) (by rw [hb'.cell (by exact hb)]; exact e0) (by rw [hb'.cell (by exact hb)]; exact e1) (by rw [hb'.cell (by exact hb)]; exact e2) (by rw [hb'.cell (by exact hb)]; exact e3)
 clear hL hcell h c0 c1 c2 c3 e0 e1 e2 e3
 generalize wrap32 (-wrap32 n) = m at *
 simp only [List.length_cons, List.length_nil]
 go_enter Tryz.func193, Tryz.ntmps193
 go_wp2_with fail
 refine (HE.out _ (qE _ _)).mono ?_
 rintro e w1 ⟨⟨g, q, rfl, hp1⟩, hb1⟩
 obtain ⟨hB1, hz1, xr⟩ := qS hb1
 have HB1 := Lib.hid hB1
 have XR := Lib.hid xr
 have HF := Lib.hid fun W (hb : Below w1.heap.size w1 W) => qDt g q _ ⟨#[]⟩ m 0 W (hp1.go hb)
 have HP1 := Lib.hid hp1
 clear hb1 hB1 xr hp1 HE
 go_wp2_with (go_at_call 223; refine (HF.out _ (Below.refl _ _)).mono ?_; rintro e w2 ⟨rfl, hb2⟩; have HB2 := Lib.hid (HB1.out.trans (hb2.mono (by omega))); have HP2 := Lib.hid (HP1.out.go hb2); have xr2 := (hb2.block _ hz1).trans XR.out; obtain ⟨⟨u0, u1⟩, f0, f1⟩ := qo xr2; have hz2 := qC xr2; clear hb2 xr2)
 have HE6 : Hid (∀ W, Below w2.heap.size w2 W -> Calls Tryz.prog 225 #[.pointer (some ⟨g, 0, none⟩)] W fun r w' => r = .returned (.int .i64 0) /\ w' = W) := fun W hb => qE4 g 0 W (qB (HP2.out.go hb).pt rfl)
 clear HP1 HF XR
 go_region_with (go_at_call 225; refine (HE6.out _ (by go_grown)).mono ?_; rintro e w3 ⟨rfl, rfl⟩)
 all_goals
  go_wp2
  refine bodyPost_ret (v := .tuple #[.agg #[.string ⟨#[]⟩, .int .i64 m], .bool true, .int .i64 0]) (by simp [results, Tryz.results193, go_sem, World.cell?_alloc_lt, hz2, u0, u1]) rfl ⟨rfl, ?_⟩
  have hb := HB2.out
  go_grown
structure Pc where
 t : Tk
 q : Option Addr
def pc (t : Tk) : Pc := ⟨t, none⟩
def qY (w : World) (v : Value) (ps : List Pc) : Prop :=
 ∃ ad cap, v = .slice ad ps.length cap /\ ps.length <= cap /\ cap <= maxLen /\ (0 < ps.length -> ∃ b o, ad = some ⟨b, o, none⟩ /\ b < w.heap.size /\ ∀ i (h : i < ps.length),
  w.cell? ⟨b, o + i * 4, none⟩ = some (.int .i64 ps[i].t.k) /\ w.cell? ⟨b, o + i * 4 + 1, none⟩ = some (.int .i64 ps[i].t.n) /\ w.cell? ⟨b, o + i * 4 + 2, none⟩ = some (.string ps[i].t.t) /\ w.cell? ⟨b, o + i * 4 + 3, none⟩ = some (.pointer ps[i].q))
theorem qY.below {w w' : World} {B : Nat} {v : Value} {ps : List Pc} (h : qY w v ps) (hb : Below B w w') (hB : w.heap.size <= B) : qY w' v ps := by
 obtain ⟨ad, cap, rfl, hc, hm, h⟩ := h
 refine ⟨ad, cap, rfl, hc, hm, fun h0 => ?_⟩
 obtain ⟨b, o, rfl, hlt, hcell⟩ := h h0
 refine ⟨b, o, rfl, Nat.lt_of_lt_of_le hlt hb.size, fun i hi => ?_⟩
 have := hcell i hi
 rw [hb.cell (by show b < B; omega), hb.cell (by show b < B; omega), hb.cell (by show b < B; omega), hb.cell (by show b < B; omega)]
 exact this
theorem qY.shape {w : World} {v : Value} {ps : List Pc} (h : qY w v ps) : ∃ ad len cap, v = .slice ad len cap := by
 obtain ⟨ad, cap, rfl, _⟩ := h
 exact ⟨_, _, _, rfl⟩
theorem qY.of {w : World} {v : Value} {ts : List Tk} (h : qI w v ts) : qY w v (ts.map pc) := by
 obtain ⟨ad, cap, rfl, hc, hm, h⟩ := h
 refine ⟨ad, cap, by rw [List.length_map], by rw [List.length_map]; exact hc, hm, fun h0 => ?_⟩
 rw [List.length_map] at h0
 obtain ⟨b, o, rfl, hlt, hcell⟩ := h h0
 refine ⟨b, o, rfl, hlt, fun i hi => ?_⟩
 have := hcell i (by simpa using hi)
 simpa [pc] using this
theorem qY.toP {w : World} {v : Value} {ts : List Tk} (h : qY w v (ts.map pc)) : qI w v ts := by
 obtain ⟨ad, cap, rfl, hc, hm, h⟩ := h
 refine ⟨ad, cap, by rw [List.length_map], by simpa using hc, hm, fun h0 => ?_⟩
 obtain ⟨b, o, rfl, hlt, hcell⟩ := h (by simpa using h0)
 refine ⟨b, o, rfl, hlt, fun i hi => ?_⟩
 have := hcell i (by simpa using hi)
 simpa [pc] using this
theorem xnext (v : Value) (x : Tk) (r : List Pc) (w0 w : World) (h : qY w0 v (pc x :: r)) (hb : Below w0.heap.size w0 w) :
  Calls Tryz.prog 90 #[v] w fun e w' => (∃ v', e = .returned (.tuple #[x.V, v']) /\ qY w0 v' r) /\ Below w.heap.size w w' := by
 obtain ⟨ad, cap, rfl, hc, hm, h⟩ := h
 obtain ⟨b, o, rfl, hlt, hcell⟩ := h (by simp)
 obtain ⟨cap, rfl⟩ : ∃ c, cap = c + 1 := ⟨cap - 1, by simp at hc; omega⟩
 have c := hcell 0 (by simp)
 simp only [Nat.zero_mul, Nat.add_zero, List.getElem_cons_zero, pc] at c
 rw [<- hb.cell (by exact hlt), <- hb.cell (by exact hlt), <- hb.cell (by exact hlt), <- hb.cell (by exact hlt)] at c
 have hc' : r.length <= cap := by simpa using hc
 refine (qF9 b o r.length cap x.k x.n x.t w _ (Lib.hid rfl) hc' hm (Nat.lt_of_lt_of_le hlt hb.size) c.1 c.2.1 c.2.2.1 c.2.2.2).mono ?_
 rintro e w' ⟨rfl, hb⟩
 refine ⟨⟨_, rfl, _, cap, rfl, hc', by omega, fun h0 => ?_⟩, hb⟩
 have h0' : 0 < r.length := h0
 refine ⟨b, o + 4, by rw [if_neg (by omega)], hlt, fun i hi => ?_⟩
 have hi' : i < r.length := hi
 have := hcell (i + 1) (by simp; omega)
 simp only [List.getElem_cons_succ] at this
 rw [show o + (i + 1) * 4 = o + 4 + i * 4 by omega] at this
 exact this
def qBe (x : Pc) : Bool := match x.q with
 | none => qAV x.t
 | some _ => false
def qAd : List Pc -> List Pc -> List (List Pc)
 | cur, [] => [cur]
 | cur, x :: r => if qBe x = true then cur :: qAd [] r else qAd (cur ++ [x]) r
def qBz (ts : List Pc) : List (List Pc) := if ts = [] then [] else qAd [] ts
theorem qY.piece {w : World} {b o cap : Nat} {ts : List Pc} (h : qY w (.slice (some ⟨b, o, none⟩) ts.length cap) ts) {i j : Nat} (hij : i <= j) (hj : j <= ts.length) (hi : i < ts.length) : qY w (.slice (some ⟨b, o + i * 4, none⟩) (j - i) (cap - i)) ((ts.take j).drop i) := by
 obtain ⟨ad, cap', e, hc, hm, h⟩ := h
 injection e with e1 _ e3
 subst e1 e3
 obtain ⟨b', o', e', hlt, hcell⟩ := h (by omega)
 injection e' with e'
 injection e' with e1 e2 _
 subst e1 e2
 have hl : ((ts.take j).drop i).length = j - i := by simp; omega
 refine ⟨some ⟨b, o + i * 4, none⟩, cap - i, by rw [hl], by rw [hl]; omega, by omega, fun _ => ⟨b, o + i * 4, rfl, hlt, fun k hk => ?_⟩⟩
 rw [hl] at hk
 have := hcell (i + k) (by omega)
 rw [show o + (i + k) * 4 = o + i * 4 + k * 4 by omega] at this
 simpa using this
def XRow (w W : World) (base : Nat) (ov : Value) (vs : List Value) (ps : List (List Pc)) : Prop := W.ownsRow base 143 1 ov vs.length vs /\ vs.length = ps.length /\ ∀ i (h : i < vs.length) (h' : i < ps.length), qY w vs[i] ps[i]
theorem XRow.app {w w1 : World} {oa : Option Addr} {oc : Nat} {vs : List Value} {done : List (List Pc)} (hr : XRow w w1 w.heap.size (.slice oa vs.length oc) vs done) (hb : Below w.heap.size w w1) (hl : vs.length <= 100000) (pa : Option Addr) (pn pc : Nat) (piece : List Pc) (hp : qY w (.slice pa pn pc) piece) :
  ∃ la lc w2, (∀ ty, (Builtin.append_ #[232, 232] ty #[.slice oa vs.length oc, .slice (some ⟨w1.heap.size, 0, none⟩) 1 1]).run Tryz.prog (w1.alloc (.cells #[.slice pa pn pc] 143)) = .ok (.slice la (vs.length + 1) lc) w2) /\
   XRow w w2 w.heap.size (.slice la (vs.length + 1) lc) (vs ++ [.slice pa pn pc]) (done ++ [piece]) /\ Below w.heap.size w w2 := by
 have hrow := hr.1.alloc (.cells #[.slice pa pn pc] 143)
 obtain ⟨v', w2, happ, hr', hgr⟩ := app1 232 143 _ 1 24 Tryz.underlying232 infoTx rfl (by decide) (by decide) hrow (by have := hb.size; go_size) [.slice pa pn pc] rfl w1.heap.size (qH _ _ rfl) (by intro u hu; simp at hu; subst hu; rfl) (by omega)
 obtain ⟨la, lc, rfl⟩ := qG hr'
 refine ⟨la, lc, w2, happ, ⟨by simpa using hr', by simp [hr.2.1], fun k h1 h2 => ?_⟩, ?_⟩
 ·by_cases hk : k < vs.length
  ·have hk2 : k < done.length := by rw [<- hr.2.1]; exact hk
   rw [List.getElem_append_left hk, List.getElem_append_left hk2]
   exact hr.2.2 k hk hk2
  ·have e : k = vs.length := by simp at h1; omega
   subst e
   have e2 : done.length = vs.length := hr.2.1.symm
   simp only [List.getElem_append_right (Nat.le_refl _), List.getElem_append_right (Nat.le_of_eq e2), Nat.sub_self, List.getElem_cons_zero, e2]
   exact hp
 ·exact (hb.alloc hb.size _).grown hgr (by have := hb.size; go_size) (fun k hk => (hrow.lt k hk).1)
theorem qY.none (w : World) (ad : Option Addr) (c : Nat) (h : c <= maxLen) : qY w (.slice ad 0 c) [] := ⟨ad, c, rfl, Nat.zero_le _, h, fun h => by simp at h⟩
theorem qFo {cur r : List Pc} {x : Pc} {done : List (List Pc)} {X : List (List Pc)} (h : X = done ++ qAd cur (x :: r)) (hx : qBe x = true) : X = (done ++ [cur]) ++ qAd [] r := by
 rw [h, qAd, if_pos hx]; simp
theorem qDZ {cur r : List Pc} {x : Pc} {done : List (List Pc)} {X : List (List Pc)} (h : X = done ++ qAd cur (x :: r)) (hx : qBe x = false) : X = done ++ qAd (cur ++ [x]) r := by
 rw [h, qAd, if_neg (by simp [hx])]
theorem qG8 (b o cap : Nat) (ts : List Pc) (w : World) (h : qY w (.slice (some ⟨b, o, none⟩) ts.length cap) ts) (h0 : 0 < ts.length) (hn : ts.length <= 100000) :
  Calls Tryz.prog 130 #[.slice (some ⟨b, o, none⟩) ts.length cap] w fun r w' => (∃ ov vs, r = .returned ov /\ XRow w w' w.heap.size ov vs (qAd [] ts)) /\ Below w.heap.size w w' := by
 have HT := Lib.hid h
 obtain ⟨ad, cap', e, hc, hmx, hcl⟩ := h
 injection e with e1 _ e3
 subst e1 e3
 obtain ⟨b', o', e', hlt, hcell⟩ := hcl h0
 injection e' with e'
 injection e' with e1 e2 _
 subst e1 e2
 have HC := Lib.hid hcell
 clear hcl hcell
 have hne : ((ts.length : Int) == 0) = false := beq_eq_false_iff_ne.2 (by omega)
 unfold maxLen at hmx
 go_enter Tryz.func130, Tryz.ntmps130
 go_wp2_with fail
 go_loopw [3, 4, 12] (fun ov fv iv wr => ∃ (i f : Nat) (vs : List Value) (done : List (List Pc)), f <= i /\ i <= ts.length /\ iv = .int .i64 i /\ fv = .int .i64 f /\ Hid (XRow w wr w.heap.size ov vs done) /\ Hid (Below w.heap.size w wr) /\ vs.length <= i /\ Hid (qAd [] ts = done ++ qAd ((ts.take i).drop f) (ts.drop i))) (fun _ _ iv _ => ts.length - (intOf iv).toNat)
 case atStart => exact ⟨0, 0, [], [], Nat.le_refl _, Nat.zero_le _, rfl, rfl, ⟨World.ownsRow_nil _ _ _ _, rfl, fun i h => by simp at h⟩, Below.refl _ _, Nat.le_refl _, by simp [Hid]⟩
 case round =>
  obtain ⟨i, f, vs, done, hf, hi, rfl, rfl, HR, HB, hvl, HS⟩ := hrel
  by_cases hlt2 : i < ts.length
  ·have hi' : (i : Int) < ts.length := by omega
   obtain ⟨k0, k1, k2, k3⟩ := HC.out i hlt2
   have hz := HB.out.size
   replace k0 := (HB.out.cell (by show b < w.heap.size; exact hlt)).trans k0
   replace k1 := (HB.out.cell (by show b < w.heap.size; exact hlt)).trans k1
   replace k2 := (HB.out.cell (by show b < w.heap.size; exact hlt)).trans k2
   replace k3 := (HB.out.cell (by show b < w.heap.size; exact hlt)).trans k3
   have hb2 : b < wr.heap.size := by omega
   obtain ⟨x, hx⟩ : ∃ x, ts[i]'hlt2 = x := ⟨_, rfl⟩
   have HD : Hid (ts.drop i = x :: ts.drop (i + 1)) := by rw [<- hx]; exact List.drop_eq_getElem_cons hlt2
   have HTK : Hid ((ts.take (i + 1)).drop f = (ts.take i).drop f ++ [x]) := by
    unfold Hid
    rw [List.take_succ_eq_append_getElem hlt2, hx, List.drop_append_of_le_length (by simp; omega)]
   have HPC : Hid (qY w (.slice (some ⟨b, o + f * 4, none⟩) (i - f) (cap - f)) ((ts.take i).drop f)) := HT.out.piece hf hi (by omega)
   rw [hx] at k0 k1 k2 k3
   clear hx
   obtain ⟨⟨xk, xn, xt⟩, xq⟩ := x
   simp only at k0 k1 k2 k3
   obtain ⟨oa, oc, hov⟩ := qG HR.out.1
   subst hov
   rcases xq with _ | xq
   case some =>
    have HS2 : Hid (qAd [] ts = done ++ qAd ((ts.take (i + 1)).drop f) (ts.drop (i + 1))) := by
     unfold Hid
     rw [HTK.out]
     exact qDZ (by rw [<- HD.out]; exact HS.out) rfl
    go_wp2_with fail
    exact ⟨⟨i + 1, f, vs, done, by omega, by omega, by go_num, rfl, ⟨Sc.qd HR.out.1 (qE _ _) (Nat.le_refl _), HR.out.2⟩, HB.out.alloc HB.out.size _, by omega, HS2⟩, by simp [intOf]; omega⟩
   have HCM := Lib.hid fun W => qCG xk xn xt W
   have HIC : Hid (qBe ⟨⟨xk, xn, xt⟩, none⟩ = (xk == 3 && xt.toList == [44])) := rfl
   unfold tokV at HCM
   cases hcm : (xk == 3 && xt.toList == [44])
   ·rw [hcm] at HCM HIC
    have HS2 : Hid (qAd [] ts = done ++ qAd ((ts.take (i + 1)).drop f) (ts.drop (i + 1))) := by
     unfold Hid
     rw [HTK.out]
     exact qDZ (by rw [<- HD.out]; exact HS.out) HIC.out
    go_wp2_with (go_at_call 152; refine (HCM.out _).mono ?_; rintro e w1 ⟨rfl, hb1⟩; have HB1 : Hid (Below w.heap.size w w1) := Below.trans (by have hb := HB.out; go_grown) (hb1.mono (by go_size)); have HR1 : Hid (XRow w w1 w.heap.size (.slice oa vs.length oc) vs done) := ⟨Sc.qd (HR.out.1.alloc _) hb1 (Nat.le_refl _), HR.out.2⟩; clear hb1)
    exact ⟨⟨i + 1, f, vs, done, by omega, by omega, by go_num, rfl, HR1, HB1, by omega, HS2⟩, by simp [intOf]; omega⟩
   ·rw [hcm] at HCM HIC
    have HS2 : Hid (qAd [] ts = (done ++ [(ts.take i).drop f]) ++ qAd ((ts.take (i + 1)).drop (i + 1)) (ts.drop (i + 1))) := by
     unfold Hid
     have e : (ts.take (i + 1)).drop (i + 1) = [] := List.drop_eq_nil_of_le (by simp; omega)
     rw [e]
     exact qFo (by rw [<- HD.out]; exact HS.out) HIC.out
    have hfi : (f : Int) <= i := by omega
    have hic : (i : Int) <= cap := by omega
    have hcf : ¬ cap - f = 0 := by omega
    go_wp2_with (first
     | (go_at_call 152; refine (HCM.out _).mono ?_; rintro e w1 ⟨rfl, hb1⟩; have HB1 : Hid (Below w.heap.size w w1) := Below.trans (by have hb := HB.out; go_grown) (hb1.mono (by go_size)); have HR1 : Hid (XRow w w1 w.heap.size (.slice oa vs.length oc) vs done) := ⟨Sc.qd (HR.out.1.alloc _) hb1 (Nat.le_refl _), HR.out.2⟩; obtain ⟨la, lc, w2, happ, hr2, hb2⟩ := HR1.out.app HB1.out (by omega) _ _ _ _ HPC.out; have HA := Lib.hid happ; have HR2 := Lib.hid hr2; have HB2 := Lib.hid hb2; clear hb1 happ hr2 hb2)
     | (at_builtin; refine qQ rfl _ _ _ _ rfl _ _ rfl rfl HA.out ?_))
    exact ⟨⟨i + 1, i + 1, _, _, Nat.le_refl _, by omega, by go_num, by go_num, HR2, HB2, by simp; omega, HS2⟩, by simp [intOf]; omega⟩
  ·obtain rfl : i = ts.length := by omega
   have hi' : ¬ ((ts.length : Nat) : Int) < ts.length := by omega
   obtain ⟨oa, oc, hov⟩ := qG HR.out.1
   subst hov
   have hfi : (f : Int) <= ts.length := by omega
   have hic : (ts.length : Int) <= cap := by omega
   have HE : Hid (qAd [] ts = done ++ [(ts.take ts.length).drop f]) := by
    have := HS.out
    rw [List.drop_length] at this
    exact this
   have hmx' : cap <= maxLen := by unfold maxLen; omega
   by_cases hcf : cap - f = 0
   ·have e1 : f = ts.length := by omega
    have e2 : ts.length - f = 0 := by omega
    have HP : Hid (qY w (.slice (some ⟨b, o, none⟩) (ts.length - f) 0) ((ts.take ts.length).drop f)) := by
     unfold Hid
     rw [List.take_length, e1, List.drop_length, Nat.sub_self]
     exact qY.none w _ _ (Nat.zero_le _)
    obtain ⟨la, lc, w2, happ, hr2, hb2⟩ := HR.out.app HB.out (by omega) _ _ _ _ HP.out
    have HA := Lib.hid happ
    have HR2 := Lib.hid hr2
    have HB2 := Lib.hid hb2
    clear happ hr2 hb2 e1 e2
    go_wp2_with (at_builtin; refine qQ rfl _ _ _ _ rfl _ _ rfl rfl HA.out ?_)
    go_ret
    refine ⟨?_, HB2.out⟩
    rw [HE.out]
    exact ⟨_, rfl, _, HR2.out⟩
   ·have HP : Hid (qY w (.slice (some ⟨b, o + f * 4, none⟩) (ts.length - f) (cap - f)) ((ts.take ts.length).drop f)) := by
     by_cases hfl : f < ts.length
     ·exact HT.out.piece hf (Nat.le_refl _) hfl
     ·have e1 : f = ts.length := by omega
      unfold Hid
      rw [List.take_length, e1, List.drop_length, Nat.sub_self]
      exact qY.none w _ _ (by omega)
    obtain ⟨la, lc, w2, happ, hr2, hb2⟩ := HR.out.app HB.out (by omega) _ _ _ _ HP.out
    have HA := Lib.hid happ
    have HR2 := Lib.hid hr2
    have HB2 := Lib.hid hb2
    clear happ hr2 hb2
    go_wp2_with (at_builtin; refine qQ rfl _ _ _ _ rfl _ _ rfl rfl HA.out ?_)
    go_ret
    refine ⟨?_, HB2.out⟩
    rw [HE.out]
    exact ⟨_, rfl, _, HR2.out⟩
theorem qJL (v : Value) (ts : List Pc) (w : World) (h : qY w v ts) (hn : ts.length <= 100000) :
  Calls Tryz.prog 130 #[v] w fun r w' => (∃ ov vs, r = .returned ov /\ XRow w w' w.heap.size ov vs (qBz ts)) /\ Below w.heap.size w w' := by
 obtain ⟨ad, cap, rfl, hc, hm, hcl⟩ := id h
 cases ts with
 | nil =>
   refine (qFe ad cap w).mono ?_
   rintro e w' ⟨rfl, rfl⟩
   exact ⟨⟨_, [], rfl, World.ownsRow_nil _ _ _ _, rfl, fun i h => by simp at h⟩, Below.refl _ _⟩
 | cons x r =>
   obtain ⟨b, o, rfl, hlt, _⟩ := hcl (by simp)
   refine (qG8 b o cap (x :: r) w h (by simp) hn).mono ?_
   rintro e w' ⟨h1, h2⟩
   exact ⟨by simpa [qBz] using h1, h2⟩
theorem qDM : ∀ (ts cur : List Pc), (qAd cur ts).length <= ts.length + 1
 | [], cur => by simp [qAd]
 | x :: r, cur => by
   rw [qAd]
   split
   ·have := qDM r []; simp; omega
   ·have := qDM r (cur ++ [x]); simp; omega
theorem qHF (ts : List Pc) : (qBz ts).length <= ts.length + 1 := by
 unfold qBz
 split
 ·simp
 ·exact qDM ts []
theorem qE8 (gu : Nat) (v : Value) (ts : List Pc) (ops : List Opd) (w : World) (h : qY w v ts) (hn : ts.length <= 1000) (hl : ops.length = (qBz ts).length)
  (hop : ∀ i (h : i < ops.length) (u : Value) (W : World), Below w.heap.size w W -> qY W u ((qBz ts)[i]'(by omega)) -> Calls Tryz.prog 131 #[.pointer (some ⟨gu, 0, none⟩), u] W fun r w' => r = .returned (.tuple #[ops[i].V, .int .i64 0]) /\ Below W.heap.size W w') :
  Calls Tryz.prog 92 #[.pointer (some ⟨gu, 0, none⟩), v] w fun r w' => (∃ ov, r = .returned (.tuple #[ov, .int .i64 0]) /\ w'.ownsRow w.heap.size 235 4 ov ops.length (opC ops)) /\ Below w.heap.size w w' := by
 have HS := Lib.hid (qJL v ts w h (by omega))
 have hol : ops.length <= 1001 := by have := qHF ts; omega
 have HOP := Lib.hid hop
 obtain ⟨ad, cap, rfl, _⟩ := h
 clear hop
 go_enter Tryz.func92, Tryz.ntmps92
 go_wp2_with fail
 refine HS.out.mono ?_
 rintro e w1 ⟨⟨ov, vs, rfl, hT⟩, hB1⟩
 obtain ⟨oa, oc, hov⟩ := qG hT.1
 subst hov
 have HT := Lib.hid hT
 have HB1 := Lib.hid hB1
 have hvl : vs.length = ops.length := by rw [hl]; exact hT.2.1
 clear hT hB1 HS
 go_wp2_with fail
 go_loopw [7, 16] (fun ov iv wr => ∃ k : Nat, k <= ops.length /\ iv = .int .i64 k /\ Hid (wr.ownsRow w1.heap.size 235 4 ov k (opC (ops.take k))) /\ Hid (Below w1.heap.size w1 wr)) (fun _ iv _ => ops.length - (intOf iv).toNat)
 case atStart => exact ⟨0, Nat.zero_le _, rfl, Lib.hid (by simpa [opC] using World.ownsRow_nil w1 _ _ _), Below.refl _ _⟩
 case round =>
  obtain ⟨k, hk, rfl, HR, HB⟩ := hrel
  by_cases hlt : k < ops.length
  ·have hk' : (k : Int) < vs.length := by omega
   obtain ⟨g, rfl, hgl, hgc⟩ := qGH HT.out.1 (k := k) (by omega)
   have hz := HB.out.size
   have hB : Below w.heap.size w wr := HB1.out.trans (HB.out.mono HB1.out.size)
   have hkv : k < vs.length := by omega
   have hpk : qY w (vs[k]'hkv) ((qBz ts)[k]'(by omega)) := HT.out.2.2 k hkv (by omega)
   obtain ⟨u, hu⟩ : ∃ u, vs[k]'hkv = u := ⟨_, rfl⟩
   rw [hu] at hgc hpk
   clear hu
   obtain ⟨ua, un, uc, rfl⟩ := hpk.shape
   have c0 : wr.cell? ⟨g, k, none⟩ = some (.slice ua un uc) := (HB.out.cell (by show g < w1.heap.size; exact hgl)).trans hgc
   have hg2 : g < wr.heap.size := by omega
   have HC := Lib.hid (HOP.out k hlt (.slice ua un uc) wr hB (hpk.below hB (Nat.le_refl _)))
   have HTK : Hid (opC (ops.take (k + 1)) = opC (ops.take k) ++ [.string ops[k].kd, .int .i64 ops[k].r, .string ops[k].nm, .int .i64 ops[k].n]) := by
    unfold Hid
    rw [List.take_succ_eq_append_getElem hlt, qLM]
   unfold Opd.V opV at HC
   obtain ⟨x, hx⟩ : ∃ x, ops[k]'hlt = x := ⟨_, rfl⟩
   rw [hx] at HC HTK
   clear hx hpk hB hgc
   obtain ⟨la, lc, hov⟩ := qG HR.out
   subst hov
   have HAP : Hid (∀ w2, Below wr.heap.size wr w2 -> ∃ la' lc' w3, (∀ ty, (Builtin.append_ #[191, 191] ty #[.slice la k lc, .slice (some ⟨w2.heap.size + 1, 0, none⟩) 1 1]).run Tryz.prog ((w2.alloc (.cells #[.string x.kd, .int .i64 x.r, .string x.nm, .int .i64 x.n] 235)).alloc (.cells #[.string x.kd, .int .i64 x.r, .string x.nm, .int .i64 x.n] 235)) = .ok (.slice la' (k + 1) lc') w3) /\
     w3.ownsRow w1.heap.size 235 4 (.slice la' (k + 1) lc') (k + 1) (opC (ops.take (k + 1))) /\ Below w1.heap.size w1 w3) := fun w2 hb => by
    have hz2 := hb.size
    have hrow := ((Sc.qd HR.out hb (Nat.le_refl _)).alloc (.cells #[.string x.kd, .int .i64 x.r, .string x.nm, .int .i64 x.n] 235)).alloc (.cells #[.string x.kd, .int .i64 x.r, .string x.nm, .int .i64 x.n] 235)
    obtain ⟨v', w3, happ, hr', hgr⟩ := app1 191 235 _ 4 48 Tryz.underlying191 infoOp rfl (by decide) (by decide) hrow (by go_size) [.string x.kd, .int .i64 x.r, .string x.nm, .int .i64 x.n] rfl (w2.heap.size + 1) (qH _ _ (by simp)) (by intro u hu; simp at hu; rcases hu with rfl | rfl | rfl | rfl <;> rfl) (by omega)
    obtain ⟨la', lc', rfl⟩ := qG hr'
    refine ⟨la', lc', w3, happ, by rw [HTK.out]; exact hr', ?_⟩
    have hb1 := HB.out.trans (hb.mono hz)
    exact ((hb1.alloc (by omega) _).alloc (by go_size) _).grown hgr (by go_size) (fun q hq => (hrow.lt q hq).1)
   go_wp2_with (first
    | (go_at_call 131; refine HC.out.mono ?_; rintro e w2 ⟨rfl, hb2⟩; obtain ⟨la', lc', w3, happ, hr3, hb3⟩ := HAP.out w2 hb2; have HA := Lib.hid happ; have HR3 := Lib.hid hr3; have HB3 := Lib.hid hb3; clear hb2 happ hr3 hb3)
    | (at_builtin; refine qQ rfl _ _ _ _ rfl _ _ rfl rfl HA.out ?_))
   exact ⟨⟨k + 1, by omega, by go_num, HR3, HB3⟩, by simp [intOf]; omega⟩
  ·obtain rfl : k = ops.length := by omega
   have hk' : ¬ ((ops.length : Nat) : Int) < vs.length := by omega
   obtain ⟨la, lc, hov⟩ := qG HR.out
   subst hov
   go_wp2
   go_ret2
   refine ⟨?_, HB1.out.trans (HB.out.mono HB1.out.size)⟩
   have := HR.out
   rw [List.take_length] at this
   have h2 := Sc.qA2 this HB1.out.size
   rw [hl] at h2
   exact ⟨_, rfl, h2⟩
end Go.Proofs.YtgjmbjahgcndnaaGreatDoor
