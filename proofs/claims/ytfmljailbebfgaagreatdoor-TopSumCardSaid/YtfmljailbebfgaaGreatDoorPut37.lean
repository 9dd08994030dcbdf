import Derived.Test.YtfmljailbebfgaaGreatDoorPut36
set_option maxHeartbeats 4000000
set_option maxRecDepth 100000
namespace Go.Proofs.YtfmljailbebfgaaGreatDoor
open Go.RowKit
def OpsR (w : World) (oa : Option Addr) (ops : List Opd) : Prop := 0 < ops.length -> ∃ b, oa = some ⟨b, 0, none⟩ /\ ∃ cur, w.heap[b]? = some (.cells cur 237 (0, 0)) /\ ∀ i (h : i < ops.length), cur[i * 4]? = some (.string ops[i].kd) /\ cur[i * 4 + 1]? = some (.int .i64 ops[i].r) /\ cur[i * 4 + 2]? = some (.string ops[i].nm) /\ cur[i * 4 + 3]? = some (.int .i64 ops[i].n)
theorem OpsR.keep {w w' : World} {oa : Option Addr} {ops : List Opd} (h : OpsR w oa ops) (k : ∀ {q : Nat} {c : Array Value}, w.heap[q]? = some (.cells c 237 (0, 0)) -> w'.heap[q]? = some (.cells c 237 (0, 0))) : OpsR w' oa ops := fun h0 => by
 obtain ⟨b, e, cur, h1, h2⟩ := h h0
 exact ⟨b, e, cur, k h1, h2⟩
theorem OpsR.of_row {w : World} {B : Nat} {oa : Option Addr} {oc : Nat} {ops : List Opd} (h : w.ownsRow B 237 4 (.slice oa ops.length oc) ops.length (opC ops)) : OpsR w oa ops := fun h0 => by
 rcases id h.2 with ⟨hv, h1⟩ | ⟨g, cap, cur, hv, _, hgg, _⟩
 ·omega
 ·injection hv with e1 _ _
  subst e1
  refine ⟨g, rfl, cur, hgg, fun i hi => ?_⟩
  obtain ⟨a, b, c, d⟩ := opC_at ops i hi
  have hadd : ∀ j, (⟨g, 0, none⟩ : Addr).add j = ⟨g, 0 + j, none⟩ := fun j => by unfold Addr.add; split <;> simp_all
  have key : ∀ j v, w.cell? ⟨g, j, none⟩ = some v -> cur[j]? = some v := fun j v hv => by simpa [World.cell?, hgg] using hv
  have q0 := h.cells rfl _ _ a
  have q1 := h.cells rfl _ _ b
  have q2 := h.cells rfl _ _ c
  have q3 := h.cells rfl _ _ d
  rw [hadd, Nat.zero_add] at q0 q1 q2 q3
  exact ⟨key _ _ q0, key _ _ q1, key _ _ q2, key _ _ q3⟩
def qAY (ops : List Opd) : List UInt8 := ops.flatMap fun o => o.kd.data.toList
theorem qJf {w w' : World} {B b : Nat} {bs : List Value} (h : Lib.IsBuilderF 294 5 B b bs w) (hb : Below w.heap.size w w') : Lib.IsBuilderF 294 5 B b bs w' := by
 have hg : w.grownBy w' none := gbelow none hb (Nat.le_refl _)
 have one : ∀ p, Lib.BuilderAtF 294 5 B b p bs w -> Lib.BuilderAtF 294 5 B b p bs w' := by
  rintro p ⟨hB, v, hk, hown, hne⟩
  refine ⟨hB, v, ?_, hown.kept hg ?_, hne⟩
  ·rw [hb.block b (Array.getElem?_eq_some_iff.1 hk).1]; exact hk
  ·cases v.ownBlock with
   | none => exact Or.inl rfl
   | some _ => exact Or.inr (by simp)
 exact h.elim (fun x => Or.inl (one _ x)) (fun x => Or.inr (one _ x))
theorem qDa (ops : List Opd) (oa : Option Addr) (oc : Nat) (w : World) (hr : OpsR w oa ops) (hn : ops.length <= 1000) (hkd : ∀ o, o ∈ ops -> o.kd.data.toList.length = 1) :
  Calls Tryz.prog 169 #[.slice oa ops.length oc] w fun r w' => r = .returned (.string ⟨(qAY ops).toArray⟩) /\ Below w.heap.size w w' := by
 have HR := Lib.hid hr
 have HKD := Lib.hid hkd
 clear hr hkd
 go_enter Tryz.func169, Tryz.ntmps169
 go_wp2_with fail
 go_loopw [8] (fun iv wr => ∃ k : Nat, k <= ops.length /\ iv = .int .i64 k /\ Hid (Lib.IsBuilderF 294 5 w.heap.size w.heap.size (Lib.byteCells (qAY (ops.take k))) wr) /\ Hid (Below w.heap.size w wr)) (fun iv _ => ops.length - (intOf iv).toNat)
 case atStart => exact ⟨0, Nat.zero_le _, rfl, Lib.IsBuilderF.of (Lib.fresh_isBuilder _ _ w), qD _ _⟩
 case round =>
  obtain ⟨k, hk, rfl, HI, HB⟩ := hrel
  by_cases hlt : k < ops.length
  ·have hk' : (k : Int) < ops.length := by omega
   obtain ⟨b, rfl, cur, hbc, hcell⟩ := HR.out (by omega)
   obtain ⟨r0, r1, r2, r3⟩ := hcell k hlt
   have hbw : wr.heap[b]? = some (.cells cur 237 (0, 0)) := by rw [HB.out.block b (qC hbc)]; exact hbc
   have k0 := qB hbw r0
   have k1 := qB hbw r1
   have k2 := qB hbw r2
   have k3 := qB hbw r3
   have hz := qC hbw
   obtain ⟨o, ho⟩ : ∃ o, ops[k]'hlt = o := ⟨_, rfl⟩
   rw [ho] at k0 k1 k2 k3
   have hko := HKD.out o (by rw [<- ho]; exact List.getElem_mem _)
   have hks : o.kd.size = 1 := by rw [<- hko, Array.length_toList]; rfl
   have HT : Hid (qAY (ops.take (k + 1)) = qAY (ops.take k) ++ o.kd.data.toList) := by
    unfold Hid
    rw [List.take_succ_eq_append_getElem hlt, ho]
    simp [qAY]
   have hfl : (qAY (ops.take k)).length <= 1000 := by
    have e1 : ∀ l : List Opd, (∀ o, o ∈ l -> o.kd.data.toList.length = 1) -> (qAY l).length = l.length := by
     intro l
     induction l with
     | nil => intro _; rfl
     | cons a r ih =>
       intro h
       have h1 := h a (by simp)
       have h2 := ih (fun o ho => h o (by simp [ho]))
       simp only [qAY, List.flatMap_cons, List.length_append, List.length_cons] at h2 ⊢
       omega
    rw [e1 _ (fun o ho => HKD.out o (List.mem_of_mem_take ho))]
    simp; omega
   have HWS : Hid (∀ W, Below wr.heap.size wr W -> Calls Tryz.prog 196 #[.pointer (some ⟨w.heap.size, 0, none⟩), .string o.kd] W fun e w' => (∃ x, e = .returned (.tuple #[.int .i64 x, .nilIface])) /\ Lib.IsBuilderF 294 5 w.heap.size w.heap.size (Lib.byteCells (qAY (ops.take k) ++ o.kd.data.toList)) w' /\ Below w.heap.size W w') := fun W hb => by
    refine (Any.Builder_WriteString_k Tryz.lays166 Tryz.Builder_Extra_166 w.heap.size w.heap.size (Lib.byteCells (qAY (ops.take k))) o.kd W (qJf HI.out hb) (by rw [Lib.byteCells_length]; omega) (Nat.le_trans HB.out.size hb.size)).mono ?_
    rintro e w' ⟨rfl, hA, hbel, hk⟩
    refine ⟨⟨_, rfl⟩, Or.inr ?_, hbel⟩
    rw [Lib.byteCells_append]
    exact hA
   clear ho hcell hbc hbw hko hks hfl r0 r1 r2 r3
   obtain ⟨kd, rg, nm, n⟩ := o
   simp only at k0 k1 k2 k3 HT HWS
   go_wp2_with fail
   refine (HWS.out _ (qD _ _)).mono ?_
   rintro e w1 ⟨⟨y, rfl⟩, hi1, hb1⟩
   have HI1 := Lib.hid hi1
   have HB1 : Hid (Below w.heap.size w w1) := (HB.out.alloc HB.out.size _).trans hb1
   clear hi1 hb1 HWS
   go_wp2_with fail
   exact ⟨⟨k + 1, by omega, by go_num, Lib.hid (by rw [HT.out]; exact HI1.out), HB1⟩, by simp [intOf]; omega⟩
  ·obtain rfl : k = ops.length := by omega
   have hk' : ¬ ((ops.length : Nat) : Int) < ops.length := by omega
   have hI := HI.out
   rw [List.take_length] at hI
   have HST := Lib.hid (Tryz.Builder_String_any_k w.heap.size w.heap.size (qAY ops) wr hI HB.out.size)
   clear hI
   go_wp2_with (first | (go_at_call 197; refine HST.out.mono ?_; rintro e w1 ⟨rfl, _, hb1, _⟩) | fail)
   go_ret
   exact ⟨rfl, HB.out.trans hb1⟩
def qBe (k : Nat) : ByteArray := [⟨#[]⟩, ⟨#[35, 114]⟩, ⟨#[114, 114]⟩, ⟨#[114]⟩, ⟨#[112]⟩, ⟨#[112]⟩, ⟨#[64]⟩, ⟨#[112, 114]⟩, ⟨#[112, 114]⟩, ⟨#[114, 64]⟩, ⟨#[64, 114]⟩, ⟨#[35]⟩].getD k ⟨#[]⟩
def qAn : Array Value := ((List.range 12).flatMap fun k => [.string (qBe k), .int .i64 (k : Int)]).toArray
def formV (k : Nat) : Value := .agg #[.string (qBe k), .int .i64 (k : Int)]
theorem qGa (w : World) : ((List.range 12).map fun k : Nat => (Instr.index 301 (.agg qAn) (.int .i64 (k : Int))).run Tryz.prog w) = (List.range 12).map fun k : Nat => .ok (formV k) w := by kernel_rfl
theorem qMJ (k : Nat) (hk : k < 12) (w : World) : (Instr.index 301 (.agg qAn) (.int .i64 (k : Int))).run Tryz.prog w = .ok (.agg #[.string (qBe k), .int .i64 (k : Int)]) w := by
 have h := congrArg (fun l => l[k]?) (qGa w)
 simpa [hk, formV] using h
theorem formSize : (Tryz.prog.info? 301).map (·.size) = some qAn.size := by kernel_rfl
structure qGe (w : World) : Prop where
 sz : 6 < w.heap.size
 blk : ∃ t fr, w.heap[(6 : Nat)]? = some (.cells qAn t fr)
theorem qGe.below {B : Nat} {w w' : World} (h : qGe w) (hb : Below B w w') (hB : 6 < B) : qGe w' :=
 ⟨Nat.lt_of_lt_of_le h.sz hb.size, by rw [hb.block 6 hB]; exact h.blk⟩
def qBt (name form : ByteArray) : Nat -> Nat -> Int
 | 0, _ => 0
 | f + 1, k => if (qBe k).toList == form.toList then (if Isa.qx name k 28 0 = 0 then qBt name form f (k + 1) else Isa.qx name k 28 0) else qBt name form f (k + 1)
theorem qDy (name form : ByteArray) (w : World) (hL : Isa.Laid w) (hF : qGe w) :
  Calls Tryz.prog 172 #[.string name, .string form] w fun r w' => r = .returned (.int .i64 (qBt name form 12 0)) /\ Below w.heap.size w w' := by
 have HFI := Lib.hid fun (k : Int) W (hb : Below w.heap.size w W) => Isa.qDy name k W (hL.below hb hL.sz)
 obtain ⟨t, fr, hblk⟩ := hF.blk
 clear hL hF
 go_enter Tryz.func172, Tryz.ntmps172
 go_wp2_with (first | (refine wpList_load_row rfl 301 _ rfl 6 rfl t qAn fr _ hblk Tryz.underlying301 rfl formSize ?_) | fail)
 clear hblk
 go_loopw [9] (fun iv wr => ∃ k : Nat, k <= 12 /\ iv = .int .i64 k /\ Hid (Below w.heap.size w wr) /\ Hid (qBt name form 12 0 = qBt name form (12 - k) k)) (fun iv _ => 12 - (intOf iv).toNat)
 case atStart => exact ⟨0, Nat.zero_le _, rfl, Below.refl _ _, rfl⟩
 case round =>
  obtain ⟨k, hk, rfl, HB, HFU⟩ := hrel
  by_cases hlt : k < 12
  ·have hi := qMJ k hlt
   have hk' : (k : Int) < 12 := by omega
   have HST : Hid (qBt name form (12 - k) k = if (qBe k).toList == form.toList then (if Isa.qx name k 28 0 = 0 then qBt name form (12 - (k + 1)) (k + 1) else Isa.qx name k 28 0) else qBt name form (12 - (k + 1)) (k + 1)) := by
    unfold Hid
    rw [show 12 - k = (12 - (k + 1)) + 1 by omega]
    rfl
   have HCL := Lib.hid (HFI.out (k : Int) (wr.alloc (.cells #[.string (qBe k), .int .i64 (k : Int)] 300)) (HB.out.alloc HB.out.size _))
   generalize qBe k = fk at *
   generalize Isa.qx name k 28 0 = R at *
   by_cases h1 : fk.toList = form.toList
   ·have h1' : (fk.toList == form.toList) = true := beq_iff_eq.2 h1
    by_cases h2 : R = 0
    ·have hR : (R == 0) = true := beq_iff_eq.2 h2
     go_wp2_with (first | (go_at_call 205; refine HCL.out.mono ?_; rintro e w1 ⟨rfl, hb1⟩) | fail)
     exact ⟨⟨k + 1, by omega, by go_num, Lib.hid ((HB.out.alloc HB.out.size _).trans (hb1.mono (by have := HB.out.size; simp; omega))), Lib.hid (by rw [HFU.out, HST.out, if_pos h1', if_pos h2])⟩, by simp [intOf]; omega⟩
    ·have hR : (R == 0) = false := beq_eq_false_iff_ne.2 h2
     go_wp2_with (first | (go_at_call 205; refine HCL.out.mono ?_; rintro e w1 ⟨rfl, hb1⟩) | fail)
     go_ret
     exact ⟨qS (by rw [HFU.out, HST.out, if_pos h1', if_neg h2]), (HB.out.alloc HB.out.size _).trans (hb1.mono (by have := HB.out.size; simp; omega))⟩
   ·have h1' : (fk.toList == form.toList) = false := beq_eq_false_iff_ne.2 h1
    go_wp2_with fail
    exact ⟨⟨k + 1, by omega, by go_num, Lib.hid (HB.out.alloc HB.out.size _), Lib.hid (by rw [HFU.out, HST.out, h1']; rfl)⟩, by simp [intOf]; omega⟩
  ·have hk' : ¬ (k : Int) < 12 := by omega
   have HX : Hid (qBt name form 12 0 = 0) := by unfold Hid; rw [HFU.out, show 12 - k = 0 by omega]; rfl
   go_wp2
   go_ret
   exact ⟨qS HX.out.symm, HB.out⟩
structure Fi where
 op : Int
 n : Int
 m : Int
 imm : Int
def kdN : List UInt8 := [35]
def kdP : List UInt8 := [112]
def qW (i : Fi) (o : Opd) : Fi := if o.kd.toList == kdN then { i with imm := o.n } else if o.kd.toList == kdP then i else { i with m := i.n, n := o.r }
theorem qE4 (op : Int) (ops : List Opd) (oa : Option Addr) (oc : Nat) (w : World) (hL : Isa.Laid w) (hr : OpsR w oa ops) (hn : ops.length <= 1000) (hnm : ∀ o, o ∈ ops -> o.kd.toList = kdN -> o.nm = ⟨#[]⟩) :
  Calls Tryz.prog 173 #[.int .i64 op, .slice oa ops.length oc] w fun r w' => r = .returned (.tuple #[.agg #[.int .i64 (ops.foldl qW ⟨op, 0, 0, 0⟩).op, .int .i64 (ops.foldl qW ⟨op, 0, 0, 0⟩).n, .int .i64 (ops.foldl qW ⟨op, 0, 0, 0⟩).m, .int .i64 (ops.foldl qW ⟨op, 0, 0, 0⟩).imm], .int .i64 (Isa.qV (ops.foldl qW ⟨op, 0, 0, 0⟩).op (ops.foldl qW ⟨op, 0, 0, 0⟩).n (ops.foldl qW ⟨op, 0, 0, 0⟩).m (ops.foldl qW ⟨op, 0, 0, 0⟩).imm)]) /\ Below w.heap.size w w' := by
 have HWR := Lib.hid fun (i : Fi) W (hb : Below w.heap.size w W) => Isa.qBq i.op i.n i.m i.imm W (hL.below hb hL.sz)
 have HR := Lib.hid hr
 have HNM := Lib.hid hnm
 clear hL hr hnm
 obtain ⟨F, HFF⟩ : ∃ F, Hid (ops.foldl qW ⟨op, 0, 0, 0⟩ = F) := ⟨_, rfl⟩
 rw [HFF.out]
 obtain ⟨fo, fn, fm, fi⟩ := F
 simp only
 go_enter Tryz.func173, Tryz.ntmps173
 go_wp2_with fail
 go_loopw [13] (fun iv wr => ∃ k : Nat, k <= ops.length /\ iv = .int .i64 k /\ Hid (wr.heap[w.heap.size]? = some (.cells #[.int .i64 0, .int .i64 0, .int .i64 0, .int .i64 0] 73 (0, 0))) /\ Hid (wr.heap[w.heap.size + 1]? = some (.cells #[.int .i64 ((ops.take k).foldl qW ⟨op, 0, 0, 0⟩).op, .int .i64 ((ops.take k).foldl qW ⟨op, 0, 0, 0⟩).n, .int .i64 ((ops.take k).foldl qW ⟨op, 0, 0, 0⟩).m, .int .i64 ((ops.take k).foldl qW ⟨op, 0, 0, 0⟩).imm] 73 (0, 0))) /\ Hid (Below w.heap.size w wr)) (fun iv _ => ops.length - (intOf iv).toNat)
 case atStart => exact ⟨0, Nat.zero_le _, rfl, Lib.hid (by rw [old2 _ _ (by simp)]; exact qI _ _ rfl), qI _ _ (by simp), by unfold Hid; go_grown⟩
 case round =>
  obtain ⟨k, hk, rfl, X0, X1, HB⟩ := hrel
  by_cases hlt : k < ops.length
  ·have hk' : (k : Int) < ops.length := by omega
   obtain ⟨b, rfl, cur, hbc, hcell⟩ := HR.out (by omega)
   obtain ⟨r0, r1, r2, r3⟩ := hcell k hlt
   have hbw : wr.heap[b]? = some (.cells cur 237 (0, 0)) := by rw [HB.out.block b (qC hbc)]; exact hbc
   have k0 := qB hbw r0
   have k1 := qB hbw r1
   have k2 := qB hbw r2
   have k3 := qB hbw r3
   have hz := qC hbw
   obtain ⟨o, ho⟩ : ∃ o, ops[k]'hlt = o := ⟨_, rfl⟩
   rw [ho] at k0 k1 k2 k3
   have hon := HNM.out o (by rw [<- ho]; exact List.getElem_mem _)
   have HT : Hid ((ops.take (k + 1)).foldl qW ⟨op, 0, 0, 0⟩ = qW ((ops.take k).foldl qW ⟨op, 0, 0, 0⟩) o) := by
    unfold Hid
    rw [List.take_succ_eq_append_getElem hlt, ho, List.foldl_append]
    rfl
   obtain ⟨gi, hfi⟩ : ∃ gi, (ops.take k).foldl qW ⟨op, 0, 0, 0⟩ = gi := ⟨_, rfl⟩
   rw [hfi] at HT X1
   clear HFF
   obtain ⟨⟨⟨u0, u1⟩, u2, u3⟩, ⟨f0, f1⟩, f2, f3⟩ := qAo X1.out
   have hz1 := qC X1.out
   clear ho hcell hbc hbw hfi r0 r1 r2 r3
   obtain ⟨kd, rg, nm, n⟩ := o
   obtain ⟨fo', fn', fm', fi'⟩ := gi
   simp only at k0 k1 k2 k3 hon u0 u1 u2 u3
   by_cases h1 : kd.toList = kdN
   ·have hn0 := hon h1
    subst hn0
    have HX : Hid (qW ⟨fo', fn', fm', fi'⟩ ⟨kd, rg, ⟨#[]⟩, n⟩ = ⟨fo', fn', fm', n⟩) := by unfold Hid qW; rw [if_pos (beq_iff_eq.2 h1)]
    unfold kdN at h1
    have h1' : (kd.toList == [35]) = true := beq_iff_eq.2 h1
    go_wp2_with fail
    refine ⟨⟨k + 1, by omega, by go_num, Lib.hid ?_, Lib.hid ?_, Lib.hid ((HB.out.setCell (Nat.le_succ _) _).alloc (by simpa using HB.out.size) _)⟩, by simp [intOf]; omega⟩
    ·rw [old2 _ _ (by simp; omega), Below.heap_setCell _ _ _ _ (by show w.heap.size ≠ w.heap.size + 1; omega)]; exact X0.out
    ·rw [HT.out, HX.out, old2 _ _ (by simpa using hz1)]; exact qQ X1.out
   ·by_cases h2 : kd.toList = kdP
    ·have HX : Hid (qW ⟨fo', fn', fm', fi'⟩ ⟨kd, rg, nm, n⟩ = ⟨fo', fn', fm', fi'⟩) := by unfold Hid qW; rw [if_neg (by simpa using h1), if_pos (beq_iff_eq.2 h2)]
     unfold kdN at h1
     unfold kdP at h2
     have h1' : (kd.toList == [35]) = false := beq_eq_false_iff_ne.2 h1
     have h2' : (kd.toList == [112]) = true := beq_iff_eq.2 h2
     go_wp2_with fail
     refine ⟨⟨k + 1, by omega, by go_num, Lib.hid ?_, Lib.hid ?_, Lib.hid (HB.out.alloc HB.out.size _)⟩, by simp [intOf]; omega⟩
     ·rw [old2 _ _ (by omega)]; exact X0.out
     ·rw [HT.out, HX.out, old2 _ _ hz1]; exact X1.out
    ·have HX : Hid (qW ⟨fo', fn', fm', fi'⟩ ⟨kd, rg, nm, n⟩ = ⟨fo', rg, fn', fi'⟩) := by unfold Hid qW; rw [if_neg (by simpa using h1), if_neg (by simpa using h2)]
     unfold kdN at h1
     unfold kdP at h2
     have h1' : (kd.toList == [35]) = false := beq_eq_false_iff_ne.2 h1
     have h2' : (kd.toList == [112]) = false := beq_eq_false_iff_ne.2 h2
     go_wp2_with fail
     go_region
     all_goals
      go_wp2_with fail
      refine ⟨⟨k + 1, by omega, by go_num, Lib.hid ?_, Lib.hid ?_, Lib.hid ((((HB.out.setCell (Nat.le_succ _) _).setCell (Nat.le_succ _) _).alloc (by simpa using HB.out.size) _).drew)⟩, by simp [intOf]; omega⟩
      ·show (World.alloc _ _).heap[w.heap.size]? = _
       rw [old2 _ _ (by simp; omega), Below.heap_setCell _ _ _ _ (by show w.heap.size ≠ w.heap.size + 1; omega), Below.heap_setCell _ _ _ _ (by show w.heap.size ≠ w.heap.size + 1; omega)]; exact X0.out
      ·rw [HT.out, HX.out]
       show (World.alloc _ _).heap[w.heap.size + 1]? = _
       rw [old2 _ _ (by simpa using hz1)]
       exact qQ (qQ X1.out)
  ·obtain rfl : k = ops.length := by omega
   have hk' : ¬ ((ops.length : Nat) : Int) < ops.length := by omega
   rw [List.take_length, HFF.out] at X1
   simp only at X1
   obtain ⟨⟨⟨u0, u1⟩, u2, u3⟩, ⟨f0, f1⟩, f2, f3⟩ := qAo X1.out
   obtain ⟨⟨⟨v0, v1⟩, v2, v3⟩, ⟨g0, g1⟩, g2, g3⟩ := qAo X0.out
   have hz1 := qC X1.out
   have hz0 := qC X0.out
   go_wp2_with fail
   go_region_with (go_at_call 206; refine (HWR.out ⟨fo, fn, fm, fi⟩ _ (by repeat' first | exact HB.out | apply Below.drew)).mono ?_; rintro e w1 ⟨rfl, hb1⟩; obtain ⟨⟨⟨y0, y1⟩, y2, y3⟩, ⟨l0, l1⟩, l2, l3⟩ := qAo ((hb1.block _ hz1).trans X1.out); obtain ⟨⟨⟨p0, p1⟩, p2, p3⟩, ⟨m0, m1⟩, m2, m3⟩ := qAo ((hb1.block _ hz0).trans X0.out); have zz1 := Nat.lt_of_lt_of_le hz1 hb1.size; have zz0 := Nat.lt_of_lt_of_le hz0 hb1.size)
   all_goals
    have HB1 : Hid (Below w.heap.size w w1) := HB.out.trans (Below.mono (Below.trans (by repeat' first | exact Below.refl _ _ | apply Below.drew) hb1) HB.out.size)
    clear hb1
    go_wp2_with fail
    exact bodyPost_ret (v := .tuple #[.agg #[.int .i64 fo, .int .i64 fn, .int .i64 fm, .int .i64 fi], .int .i64 (Isa.qV fo fn fm fi)]) (by simp [results, Tryz.results173, go_sem, Act.put, p0, p1, p2, p3]) rfl ⟨rfl, (((HB1.out.setCell (Nat.le_refl _) _).setCell (Nat.le_refl _) _).setCell (Nat.le_refl _) _).setCell (Nat.le_refl _) _⟩
theorem UR.cell0 {W : World} {B gu : Nat} {e : Value} {ln : Int} {nv lm pp pv rv : Value} {its : List It} (h : UR W B gu e ln nv lm pp pv rv its) : W.cell? ⟨gu, 0, none⟩ = some e := by
 obtain ⟨iv, l, h1, _⟩ := h.its
 exact qB h1 rfl
def qEJ (n : Int) : Tk := ⟨2, n, ⟨#[]⟩⟩
theorem qI8 (x : Tk) (h : qBW x = false) : qBB [x] = [[x]] := by simp [qBB, qAS, h]
theorem UR.line {w : World} {B gu : Nat} {e : Value} {ln : Int} {nv lm pp pv rv : Value} {its : List It} (h : UR w B gu e ln nv lm pp pv rv its) (p : Int) : UR (w.setCell ⟨gu, 1, none⟩ (.int .i64 p)) B gu e p nv lm pp pv rv its := by
 obtain ⟨iv, l, h1, h2, h3, h4⟩ := h.its
 exact ⟨h.lt, by simpa using h.le, iv, l, qQ h1, qAP h2 h.lt, h3, fun p hp => (h4 p hp).fr h1 (fun i _ hne => Below.heap_setCell _ _ _ _ hne)⟩
theorem qh.set {w : World} {q i : Nat} {c : Array Value} {t : TypeId} {v x : Value} {l : List UInt8} (ho : qh w x l) (h : w.heap[q]? = some (.cells c t (0, 0))) (hc : ∀ (j : Nat) (n : Int), c[j]? ≠ some (Value.int .u8 n)) : qh (w.setCell ⟨q, i, none⟩ v) x l := by
 obtain ⟨ad, cap, rfl, hm, hl⟩ := ho
 refine ⟨ad, cap, rfl, hm, fun h0 => ?_⟩
 obtain ⟨b, o, rfl, hb, hcell⟩ := hl h0
 have hne : b ≠ q := by
  intro e
  subst e
  have := hcell 0 h0
  simp only [World.cell?, h] at this
  exact hc (o + 0) _ (by simpa using this)
 refine ⟨b, o, rfl, by simpa using hb, fun j hj => ?_⟩
 have hk : (w.setCell ⟨q, i, none⟩ v).heap[b]? = w.heap[b]? := Below.heap_setCell _ _ _ _ hne
 have := hcell j hj
 simp only [World.cell?, hk] at this ⊢
 exact this
end Go.Proofs.YtfmljailbebfgaaGreatDoor
