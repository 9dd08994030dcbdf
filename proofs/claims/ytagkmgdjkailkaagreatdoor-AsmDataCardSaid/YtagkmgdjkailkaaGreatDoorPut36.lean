/- asm: instructions that lead. asm: the numbers of .byte, .word and .long. asm: one line of numbers read. -/
import Derived.Test.YtagkmgdjkailkaaGreatDoorPut35
import Derived.Test.YtagkmgdjkailkaaGreatDoorPut25
import Derived.Test.YtagkmgdjkailkaaGreatDoorPut26
namespace Go.Proofs.YtagkmgdjkailkaaGreatDoor
open Go.RowKit

set_option maxHeartbeats 4000000 in
/-- An instruction that leads to a value's place. -/
theorem instr_lead (gu B : Nat) (e nv lm pp pv rv : Value) (ln : Int) (its : List It) (name : ByteArray) (ops : List Opd) (o1 : Opd) (nm1 : List UInt8) (ho1 : ops.head? = some o1) (hnm1 : o1.nm = ⟨nm1.toArray⟩) (oa : Option Addr) (oc : Nat) (op : Int) (w : World) (h : UR w B gu e ln nv lm pp pv rv its) (hL : Isa.Laid w) (hF : FLaid w) (hr : OpsR w oa ops) (hn : ops.length ≤ 1000) (hkd : ∀ o, o ∈ ops → o.kd.data.toList.length = 1) (hnm : ∀ o, o ∈ ops → o.kd.toList = kdN → o.nm = ⟨#[]⟩)
    (hnot : formU ops ≠ [61, 114]) (hpl : (formU ops).head? = some 112) (hop : findU name ⟨(formU ops).toArray⟩ 12 0 = op) (h0 : op ≠ 0) (hw : Isa.wrongI (ops.foldl fillU ⟨op, 0, 0, 0⟩).op (ops.foldl fillU ⟨op, 0, 0, 0⟩).n (ops.foldl fillU ⟨op, 0, 0, 0⟩).m (ops.foldl fillU ⟨op, 0, 0, 0⟩).imm = 0) (hits : its.length ≤ 100000) :
    Calls Tryz.prog 89 #[.pointer (some ⟨gu, 0, none⟩), .string name, .slice oa ops.length oc] w fun r w' => r = .returned (.int .i64 0) ∧ UR w' B gu e ln nv lm pp pv rv (its ++ [leadI ln (ops.foldl fillU ⟨op, 0, 0, 0⟩).op (ops.foldl fillU ⟨op, 0, 0, 0⟩).n (ops.foldl fillU ⟨op, 0, 0, 0⟩).m (ops.foldl fillU ⟨op, 0, 0, 0⟩).imm (.val nm1 o1.n)]) ∧ Fr gu B w w' ∧ KeepM w w' := by
  have kpO : ∀ {W : World}, Below w.heap.size w W → OpsR W oa ops := fun {W} hb => hr.keep fun hq => by rw [hb.block _ (blk_lt hq)]; exact hq
  have HFO := Lib.hid fun W (hb : Below w.heap.size w W) => formOf_any ops oa oc W (kpO hb) hn hkd
  have HFD := Lib.hid fun W (hb : Below w.heap.size w W) => find_any name ⟨(formU ops).toArray⟩ W (hL.below hb hL.sz) (hF.below hb hF.sz)
  have HFL := Lib.hid fun W (hb : Below w.heap.size w W) => filled_any op ops oa oc W (hL.below hb hL.sz) (kpO hb) hn hnm
  rw [hop] at HFD
  rw [hw] at HFL
  have HLE : Hid (∀ fc W, Below w.heap.size w W → Calls Tryz.prog 128 #[.pointer (some ⟨gu, 0, none⟩), .agg #[.int .i64 (ops.foldl fillU ⟨op, 0, 0, 0⟩).op, .int .i64 (ops.foldl fillU ⟨op, 0, 0, 0⟩).n, .int .i64 (ops.foldl fillU ⟨op, 0, 0, 0⟩).m, .int .i64 (ops.foldl fillU ⟨op, 0, 0, 0⟩).imm], .func (.func 132) #[] fc] W fun r w' => (∃ gt gi fa, r = .returned (itV 0 2 1 2 fa (.func (.func 157) #[] #[.pointer (some ⟨gt, 0, none⟩), .pointer (some ⟨gi, 0, none⟩)])) ∧ fa = (if Isa.infoShape (ops.foldl fillU ⟨op, 0, 0, 0⟩).op = 4 then .func (.func 162) #[] #[.pointer (some ⟨gt, 0, none⟩)] else .nilFunc) ∧ w'.heap[gt]? = some (.cells #[.func (.func 132) #[] fc] 210 (0, 0)) ∧ w'.heap[gi]? = some (.cells #[.int .i64 (ops.foldl fillU ⟨op, 0, 0, 0⟩).op, .int .i64 (ops.foldl fillU ⟨op, 0, 0, 0⟩).n, .int .i64 (ops.foldl fillU ⟨op, 0, 0, 0⟩).m, .int .i64 (ops.foldl fillU ⟨op, 0, 0, 0⟩).imm] 37 (0, 0))) ∧ Below W.heap.size W w') := fun fc W hb => by
    refine (leading_any gu (ops.foldl fillU ⟨op, 0, 0, 0⟩).op (ops.foldl fillU ⟨op, 0, 0, 0⟩).n (ops.foldl fillU ⟨op, 0, 0, 0⟩).m (ops.foldl fillU ⟨op, 0, 0, 0⟩).imm (.func 132) #[] fc W (hL.below hb hL.sz)).mono ?_
    rintro r w' ⟨⟨gt, gi, h1, h2, h3⟩, h4⟩
    exact ⟨⟨gt, gi, _, h1, rfl, h2, h3⟩, h4⟩
  obtain ⟨b1, len1, cur1, hoa, hol, hbc, q0, q1, q2, q3⟩ : ∃ b len cur, oa = some ⟨b, 0, none⟩ ∧ ops.length = len + 1 ∧ w.heap[b]? = some (.cells cur 172 (0, 0)) ∧ cur[0]? = some (.string o1.kd) ∧ cur[1]? = some (.int .i64 o1.r) ∧ cur[2]? = some (.string ⟨nm1.toArray⟩) ∧ cur[3]? = some (.int .i64 o1.n) := by
    cases ops with
    | nil => simp at ho1
    | cons a r =>
      have : a = o1 := by simpa using ho1
      subst this
      obtain ⟨b, e, cur, h1, h2⟩ := hr (by simp)
      obtain ⟨k0, k1, k2, k3⟩ := h2 0 (by simp)
      simp only [Nat.zero_mul, Nat.zero_add, List.getElem_cons_zero] at k0 k1 k2 k3
      exact ⟨b, r.length, cur, e, by simp, h1, k0, k1, by rw [← hnm1]; exact k2, k3⟩
  have HOB := Lib.hid hbc
  have HGR : Hid (∀ W, W.heap[w.heap.size]? = some (.cells #[.pointer (some ⟨gu, 0, none⟩)] 117 (0, 0)) → W.heap[w.heap.size + 1]? = some (.cells #[.slice oa ops.length oc] 123 (0, 0)) → Below w.heap.size w W → GoalR W gu (.func (.func 132) #[] #[.pointer (some ⟨w.heap.size, 0, none⟩), .pointer (some ⟨w.heap.size + 1, 0, none⟩)]) (.val nm1 o1.n)) := fun W h1 h2 hb => ⟨_, _, b1, len1, oc, cur1, rfl, h1, by rw [← hoa, ← hol]; exact h2, by rw [hb.block _ (blk_lt hbc)]; exact hbc, ⟨_, _, q0, q1⟩, q2, q3⟩
  have HU := Lib.hid h
  have HAD := Lib.hid fun W gt gi tv fa (hfa : fa = (if Isa.infoShape (ops.foldl fillU ⟨op, 0, 0, 0⟩).op = 4 then .func (.func 162) #[] #[.pointer (some ⟨gt, 0, none⟩)] else .nilFunc)) (hb : Below w.heap.size w W) (hgt : W.heap[gt]? = some (.cells #[tv] 210 (0, 0))) (hgi : W.heap[gi]? = some (.cells #[.int .i64 (ops.foldl fillU ⟨op, 0, 0, 0⟩).op, .int .i64 (ops.foldl fillU ⟨op, 0, 0, 0⟩).n, .int .i64 (ops.foldl fillU ⟨op, 0, 0, 0⟩).m, .int .i64 (ops.foldl fillU ⟨op, 0, 0, 0⟩).imm] 37 (0, 0))) (hgo : GoalR W gu tv (.val nm1 o1.n)) => uadd_more gu B e nv lm pp pv rv fa (.func (.func 157) #[] #[.pointer (some ⟨gt, 0, none⟩), .pointer (some ⟨gi, 0, none⟩)]) ln 0 (leadI ln (ops.foldl fillU ⟨op, 0, 0, 0⟩).op (ops.foldl fillU ⟨op, 0, 0, 0⟩).n (ops.foldl fillU ⟨op, 0, 0, 0⟩).m (ops.foldl fillU ⟨op, 0, 0, 0⟩).imm (.val nm1 o1.n)) its W (HU.out.go hb) rfl ⟨gt, gi, tv, hfa, rfl, hgt, hgi, hgo⟩ hits
  have HFW : Hid (∀ W W', Below w.heap.size w W → Fr gu B W W' → Fr gu B w W') := fun W W' hb hf => (Fr.below (hb.mono HU.out.le)).trans hf
  unfold itV at HLE HAD
  simp only [leadI] at HAD
  clear hoa hol hbc q0 q1 q2 q3
  have hf1 : (formU ops == [61, 114]) = false := beq_eq_false_iff_ne.2 hnot
  have h0' : (op == 0) = false := beq_eq_false_iff_ne.2 h0
  clear hL hF hr kpO hkd hnm hw h hnm1 ho1
  generalize ops.foldl fillU ⟨op, 0, 0, 0⟩ = fi at *
  obtain ⟨fo, fn, fm, fi⟩ := fi
  simp only at *
  obtain ⟨FM, hFM⟩ : ∃ FM, formU ops = FM := ⟨_, rfl⟩
  rw [hFM] at HFO HFD hf1 hpl
  clear hFM hop hnot
  have HHP : Hid (∀ W, Calls Tryz.prog 104 #[.string ⟨FM.toArray⟩, .string ⟨#[112]⟩] W fun e w' => e = .returned (.bool true) ∧ W = w') := fun W => by
    refine (Tryz.strings_HasPrefix ⟨FM.toArray⟩ ⟨#[112]⟩ W).mono ?_
    rintro e w' ⟨rfl, rfl⟩
    refine ⟨?_, rfl⟩
    congr 2
    simp only
    cases FM with
    | nil => simp at hpl
    | cons a r =>
      have ha : a = 112 := by simpa using hpl
      subst ha
      rfl
  go_enter Tryz.func89, Tryz.ntmps89
  go_wp2_with fail
  refine (HFO.out _ (by go_grown)).mono ?_
  rintro e w1 ⟨rfl, hb1⟩
  have hB1 : Below w.heap.size w w1 := Below.trans (by go_grown) (hb1.mono (by go_size))
  have xu : w1.heap[w.heap.size]? = some (.cells #[.pointer (some ⟨gu, 0, none⟩)] 117 (0, 0)) := by rw [hb1.block _ (by go_size), old2 _ _ (by go_size)]; exact new_at _ _ rfl
  have xl : w1.heap[w.heap.size + 1]? = some (.cells #[.slice oa ops.length oc] 123 (0, 0)) := by rw [hb1.block _ (by go_size)]; exact new_at _ _ (by go_size)
  have HB1 := Lib.hid hB1
  have XU := Lib.hid xu
  have XL := Lib.hid xl
  have a0 : w1.cell? ⟨w.heap.size, 0, none⟩ = some (.pointer (some ⟨gu, 0, none⟩)) := blk_cell xu rfl
  have a1 : w1.cell? ⟨w.heap.size + 1, 0, none⟩ = some (.slice oa ops.length oc) := blk_cell xl rfl
  have z1 := blk_lt xl
  clear hb1 hB1 xu xl HFO
  go_wp2_with (first | (go_at_call 130; refine (HFD.out _ HB1.out).mono ?_; rintro e w2 ⟨rfl, hb2⟩; have HB2 := Lib.hid (HB1.out.trans (hb2.mono HB1.out.size)); have XU2 := Lib.hid ((hb2.block _ (blk_lt XU.out)).trans XU.out); have XL2 := Lib.hid ((hb2.block _ (blk_lt XL.out)).trans XL.out); have b0 : w2.cell? ⟨w.heap.size, 0, none⟩ = some (.pointer (some ⟨gu, 0, none⟩)) := blk_cell XU2.out rfl; have b1 : w2.cell? ⟨w.heap.size + 1, 0, none⟩ = some (.slice oa ops.length oc) := blk_cell XL2.out rfl; have z2 := blk_lt XL2.out; clear hb2) | fail)
  all_goals
    refine (HFL.out _ HB2.out).mono ?_
    rintro e w3 ⟨rfl, hb3⟩
    have HB3 := Lib.hid (HB2.out.trans (hb3.mono HB2.out.size))
    have XU3 := Lib.hid ((hb3.block _ (blk_lt XU2.out)).trans XU2.out)
    have d0 : w3.cell? ⟨w.heap.size, 0, none⟩ = some (.pointer (some ⟨gu, 0, none⟩)) := blk_cell XU3.out rfl
    have z3 := blk_lt XU3.out
    have XL3 := Lib.hid ((hb3.block _ (blk_lt XL2.out)).trans XL2.out)
    have zl3 := blk_lt XL3.out
    clear hb3 a0 a1 b0 b1
    go_wp2_with fail
  all_goals
    refine (HHP.out _).mono ?_
    rintro e w4 ⟨rfl, rfl⟩
    go_wp2_with fail
    have HB4 : Hid (Below w.heap.size w ((w3.alloc (.cells #[.int .i64 fo, .int .i64 fn, .int .i64 fm, .int .i64 fi] 37)).drew)) := (HB3.out.alloc HB3.out.size _).drew
    have XU4 : Hid ((w3.alloc (.cells #[.int .i64 fo, .int .i64 fn, .int .i64 fm, .int .i64 fi] 37)).drew.heap[w.heap.size]? = some (.cells #[.pointer (some ⟨gu, 0, none⟩)] 117 (0, 0))) := (old2 _ _ z3).trans XU3.out
    have XL4 : Hid ((w3.alloc (.cells #[.int .i64 fo, .int .i64 fn, .int .i64 fm, .int .i64 fi] 37)).drew.heap[w.heap.size + 1]? = some (.cells #[.slice oa ops.length oc] 123 (0, 0))) := (old2 _ _ zl3).trans XL3.out
    clear HB1 HB2 HFD HFL HHP XU XL XU2 XL2
    have xi4 : (w3.alloc (.cells #[.int .i64 fo, .int .i64 fn, .int .i64 fm, .int .i64 fi] 37)).drew.heap[w3.heap.size]? = some (.cells #[.int .i64 fo, .int .i64 fn, .int .i64 fm, .int .i64 fi] 37 (0, 0)) := new_at _ _ rfl
    refine wp_region_noPanic ?_
    refine wp_region_held_drew (S := fun X => X.heap[w.heap.size]? = some (.cells #[.pointer (some ⟨gu, 0, none⟩)] 117 (0, 0)) ∧ X.heap[w3.heap.size]? = some (.cells #[.int .i64 fo, .int .i64 fn, .int .i64 fm, .int .i64 fi] 37 (0, 0))) (by kernel_rfl) ⟨XU4.out, xi4⟩ (fun hHeld => ?_)
    clear xi4
    refine take_at 0 56 (v := ?_) rfl rfl (by kernel_rfl) (by kernel_rfl) (by kernel_rfl) (fun _ _ _ h => h) rfl ?_ hHeld ?_
    rotate_left
    · intro w hSw
      have y0 := cell_of_block (i := 0) hSw.1 rfl
      go_simp
      try with_reducible rfl
    simp only [List.setIfInBounds_toArray, List.set_cons_zero, List.set_cons_succ]
    refine take_at 1 57 (v := ?_) rfl rfl (by kernel_rfl) (by kernel_rfl) (by kernel_rfl) (fun _ _ _ h => h) rfl ?_ hHeld ?_
    rotate_left
    · intro w hSw
      have y0 := cell_of_block (i := 0) hSw.1 rfl
      go_simp
      try with_reducible rfl
    simp only [List.setIfInBounds_toArray, List.set_cons_zero, List.set_cons_succ]
    refine take_at 2 58 (v := ?_) rfl rfl (by kernel_rfl) (by kernel_rfl) (by kernel_rfl) (fun _ _ _ h => h) rfl ?_ hHeld ?_
    rotate_left
    · intro w hSw
      have y0 := cell_of_block (i := 0) hSw.2 rfl
      have y1 := cell_of_block (i := 1) hSw.2 rfl
      have y2 := cell_of_block (i := 2) hSw.2 rfl
      have y3 := cell_of_block (i := 3) hSw.2 rfl
      go_simp
      try with_reducible rfl
    simp only [List.setIfInBounds_toArray, List.set_cons_zero, List.set_cons_succ]
    refine take_at 3 59 (v := ?_) rfl rfl (by kernel_rfl) (by kernel_rfl) (by kernel_rfl) (fun _ _ _ h => h) rfl ?_ hHeld ?_
    rotate_left
    · intro w hSw
      go_simp
      try with_reducible rfl
    simp only [List.setIfInBounds_toArray, List.set_cons_zero, List.set_cons_succ]
    refine wpAnyH_ready (rs := [4]) (by kernel_rfl) (by simp) ?_
    refine AllReadyH.cons rfl (fun K hK => ?_) AllReadyH.nil
    go_simp
    refine (HLE.out _ _ HB4.out).mono ?_
    rintro e w5 ⟨⟨gt, gi, fa, rfl, hfa, hgt, hgi⟩, hb5⟩
    have HB5 := Lib.hid (HB4.out.trans (hb5.mono HB4.out.size))
    have xu5 := (hb5.block _ (blk_lt XU4.out)).trans XU4.out
    have xl5 := (hb5.block _ (blk_lt XL4.out)).trans XL4.out
    have xi5 := (hb5.block _ (blk_lt hHeld.2)).trans hHeld.2
    have HGO := Lib.hid (HGR.out _ xu5 xl5 HB5.out)
    have hcall := Lib.hid (HAD.out _ _ _ _ _ hfa HB5.out hgt hgi HGO.out)
    clear hb5 xl5 hgt hgi hfa
    go_simp
    refine hK.out _ _ ⟨xu5, xi5⟩ (fun hHeld => ?_)
    clear hK K xu5 xi5
    refine wpAnyH_ready (rs := [5]) (by kernel_rfl) (by simp) ?_
    refine AllReadyH.cons rfl (fun K hK => ?_) AllReadyH.nil
    go_simp
    refine hcall.out.mono ?_
    rintro e w6 ⟨rfl, hu6, hf6, hk6⟩
    have hS6 := And.intro (hk6.2 _ _ hHeld.1 (by intro c f e; cases e) (by intro c f e; cases e)) (hk6.2 _ _ hHeld.2 (by intro c f e; cases e) (by intro c f e; cases e))
    go_simp
    refine hK.out _ _ hS6 (fun hHeld => ?_)
    clear hK K hS6
    refine wpAnyH_done (by kernel_rfl) ?_ _
    refine NoPanic.normal ?_
    clear hHeld hcall
  all_goals
    have HU6 := Lib.hid hu6
    have HF6 := Lib.hid (HFW.out _ _ HB5.out hf6)
    have HK6 := Lib.hid ((KeepM.of HB5.out).trans hk6)
    clear hu6 hf6 hk6
    go_wp2_with fail
    go_ret
    exact ⟨rfl, HU6.out, HF6.out, HK6.out⟩

end Go.Proofs.YtagkmgdjkailkaaGreatDoor

namespace Go.Proofs.YtagkmgdjkailkaaGreatDoor
open Go.RowKit

set_option maxHeartbeats 4000000 in
set_option maxRecDepth 100000 in
theorem numbers_any (gu B : Nat) (e nv lm pp pv rv : Value) (ln : Int) (its : List It) (size : Int) (ns : List Int) (oa : Option Addr) (oc : Nat) (w0 w : World) (h : UR w B gu e ln nv lm pp pv rv its) (hs : size = 1 ∨ size = 2 ∨ size = 4) (hn0 : 0 < ns.length) (hn : its.length + ns.length ≤ 100000)
    (hrow : w0.ownsRow 0 172 4 (.slice oa ns.length oc) ns.length (opC (ns.map fun n => ⟨⟨#[112]⟩, 0, ⟨#[]⟩, n⟩))) (hw0 : Below w0.heap.size w0 w) (hfit : ∀ n, n ∈ ns → fitsU n (8 * size) = true) :
    Calls Tryz.prog 87 #[.pointer (some ⟨gu, 0, none⟩), .int .i64 size, .slice oa ns.length oc] w fun r w' => r = .returned (.int .i64 0) ∧ UR w' B gu e ln nv lm pp pv rv (its ++ ns.map (numI ln size [])) ∧ Fr gu B w w' ∧ KeepU w w' := by
  have hne : ((ns.length : Int) == 0) = false := beq_eq_false_iff_ne.2 (by omega)
  have H0 := Lib.hid h
  have HR := Lib.hid hrow
  have HW0 := Lib.hid hw0
  have HFIT := Lib.hid hfit
  clear h hrow hw0 hfit
  go_enter Tryz.func87, Tryz.ntmps87
  go_wp2_with fail
  go_loopw [15] (fun iv wr => ∃ k : Nat, k ≤ ns.length ∧ iv = .int .i64 k ∧ Hid (UR wr B gu e ln nv lm pp pv rv (its ++ (ns.take k).map (numI ln size []))) ∧ Hid (Fr gu B w wr) ∧ Hid (KeepU w wr)) (fun iv _ => ns.length - (intOf iv).toNat)
  case atStart => exact ⟨0, Nat.zero_le _, rfl, Lib.hid (by simpa using H0.out), Fr.refl _ _ _, KeepU.refl _⟩
  case round =>
    obtain ⟨k, hk, rfl, HU, HF, HK⟩ := hrel
    by_cases hlt : k < ns.length
    · have hk' : (k : Int) < ns.length := by omega
      have hs1 : 1 ≤ size ∧ size ≤ 4 := by omega
      obtain ⟨g, hoa, hgl, k0, k1, k2, k3⟩ : ∃ g, oa = some ⟨g, 0, none⟩ ∧ g < wr.heap.size ∧ wr.cell? ⟨g, k * 4, none⟩ = some (.string ⟨#[112]⟩) ∧ wr.cell? ⟨g, k * 4 + 1, none⟩ = some (.int .i64 0) ∧ wr.cell? ⟨g, k * 4 + 2, none⟩ = some (.string ⟨#[]⟩) ∧ wr.cell? ⟨g, k * 4 + 3, none⟩ = some (.int .i64 ns[k]) := by
        rcases id HR.out.2 with ⟨hv, h0⟩ | ⟨g, cap, cur, hv, hg, hgg, _⟩
        · omega
        · injection hv with e1 _ _
          subst e1
          have hgw : wr.heap[g]? = some (.cells cur 172 (0, 0)) := HK.out.2 _ _ _ _ (by rw [HW0.out.block g (blk_lt hgg)]; exact hgg) (by decide)
          have hcc : ∀ j, wr.cell? ⟨g, j, none⟩ = w0.cell? ⟨g, j, none⟩ := fun j => by simp only [World.cell?, hgw, hgg]
          obtain ⟨a, b, c, d⟩ := opC_at (ns.map fun n => (⟨⟨#[112]⟩, 0, ⟨#[]⟩, n⟩ : Opd)) k (by simpa using hlt)
          have hadd : ∀ j, (⟨g, 0, none⟩ : Addr).add j = ⟨g, 0 + j, none⟩ := fun j => by unfold Addr.add; split <;> simp_all
          have q0 := HR.out.cells rfl _ _ a
          have q1 := HR.out.cells rfl _ _ b
          have q2 := HR.out.cells rfl _ _ c
          have q3 := HR.out.cells rfl _ _ d
          rw [hadd, Nat.zero_add, ← hcc] at q0 q1 q2 q3
          simp only [List.getElem_map] at q0 q1 q2 q3
          exact ⟨g, rfl, blk_lt hgw, q0, q1, q2, q3⟩
      subst hoa
      obtain ⟨n, hnk⟩ : ∃ n, ns[k]'hlt = n := ⟨_, rfl⟩
      rw [hnk] at k3
      have hft : fitsU n (8 * size) = true := HFIT.out n (by rw [← hnk]; exact List.getElem_mem _)
      have HFI : Hid (∀ W, Calls Tryz.prog 126 #[.int .i64 n, .int .i64 (8 * size)] W fun r w' => r = .returned (.bool true) ∧ w' = W) := fun W => by
        have := fitsA_any n (8 * size) (by omega) W
        rwa [hft] at this
      have HT : Hid (its ++ (ns.take (k + 1)).map (numI ln size []) = (its ++ (ns.take k).map (numI ln size [])) ++ [numI ln size [] n]) := by
        unfold Hid
        rw [List.take_succ_eq_append_getElem hlt, hnk]
        simp
      have HNU := Lib.hid fun W => numberI_any ⟨gu, 0, none⟩ size ⟨#[]⟩ n W
      clear hnk hft
      go_wp2_with (go_at_call 126; refine (HFI.out _).mono ?_; rintro e w1 ⟨rfl, rfl⟩)
      refine (HNU.out _).mono ?_
      rintro e' w2 ⟨⟨gb, gs, gv, rfl, _, x1, x2, x3⟩, hb2⟩
      have hB2 : Below wr.heap.size wr w2 := Below.trans (oalloc _ _) (hb2.mono (by simp))
      have hU2 := HU.out.go hB2
      have HAD := Lib.hid (uadd_any gu B e nv lm pp pv rv _ _ ln 0 (numI ln size [] n) _ w2 hU2 rfl (GenR.num (nm := []) x1 x2 x3) (by simp; omega))
      have HF2 : Hid (Fr gu B w w2) := HF.out.trans (Fr.below (hB2.mono HU.out.le))
      have HK2 : Hid (KeepU w w2) := HK.out.trans (KeepU.of hB2)
      clear x1 x2 x3 hb2 hB2 hU2 HNU HFI HU HF HK
      unfold itV numI at HAD
      unfold itV
      simp only at HAD
      go_wp2_with (go_at_call 47; refine HAD.out.mono ?_; rintro e'' w3 ⟨rfl, hu3, hf3, hk3⟩; have HU3 := Lib.hid hu3; have HF3 := Lib.hid (HF2.out.trans hf3); have HK3 := Lib.hid (HK2.out.trans hk3); clear hu3 hf3 hk3)
      exact ⟨⟨k + 1, by omega, by go_num, Lib.hid (by rw [HT.out]; exact HU3.out), HF3, HK3⟩, by simp [intOf]; omega⟩
    · obtain rfl : k = ns.length := by omega
      have hk' : ¬ ((ns.length : Nat) : Int) < ns.length := by omega
      go_wp2
      go_ret
      have := HU.out
      rw [List.take_length] at this
      exact ⟨rfl, this, HF.out, HK.out⟩

end Go.Proofs.YtagkmgdjkailkaaGreatDoor

namespace Go.Proofs.YtagkmgdjkailkaaGreatDoor
open Go.RowKit

theorem statement_long (gu B : Nat) (e nv lm pp pv rv : Value) (ln : Int) (its : List It) (ns : List Int) (oa : Option Addr) (oc : Nat) (w0 w : World) (h : UR w B gu e ln nv lm pp pv rv its) (hn0 : 0 < ns.length) (hn : its.length + ns.length ≤ 100000)
    (hrow : w0.ownsRow 0 172 4 (.slice oa ns.length oc) ns.length (opC (ns.map fun n => ⟨⟨#[112]⟩, 0, ⟨#[]⟩, n⟩))) (hw0 : Below w0.heap.size w0 w) (hfit : ∀ n, n ∈ ns → fitsU n 32 = true) :
    Calls Tryz.prog 46 #[.pointer (some ⟨gu, 0, none⟩), .string ⟨#[46, 108, 111, 110, 103]⟩, .slice oa ns.length oc] w fun r w' => r = .returned (.int .i64 0) ∧ UR w' B gu e ln nv lm pp pv rv (its ++ ns.map (numI ln 4 [])) ∧ Fr gu B w w' ∧ KeepU w w' := by
  have HN := Lib.hid (numbers_any gu B e nv lm pp pv rv ln its 4 ns oa oc w0 w h (.inr (.inr rfl)) hn0 hn hrow hw0 hfit)
  clear h hrow hw0 hfit
  go_enter Tryz.func46, Tryz.ntmps46
  go_wp2_with (go_at_call 87; refine HN.out.mono ?_; rintro e' w1 ⟨rfl, h1, h2, h3⟩)
  go_ret
  exact ⟨rfl, h1, h2, h3⟩

theorem UR.cell0 {W : World} {B gu : Nat} {e : Value} {ln : Int} {nv lm pp pv rv : Value} {its : List It} (h : UR W B gu e ln nv lm pp pv rv its) : W.cell? ⟨gu, 0, none⟩ = some e := by
  obtain ⟨iv, l, h1, _⟩ := h.its
  exact blk_cell h1 rfl

def tkLong : Tk := ⟨1, 0, ⟨#[46, 108, 111, 110, 103]⟩⟩
def tkNum (n : Int) : Tk := ⟨2, n, ⟨#[]⟩⟩

theorem pieces_one (x : Tk) (h : isComma x = false) : piecesT [x] = [[x]] := by simp [piecesT, splitT, h]

set_option maxHeartbeats 4000000 in
/-- A line of .long and a number. -/
theorem read_long (gu B : Nat) (nv lm pp pv rv : Value) (ln : Int) (its : List It) (v : Value) (n : Int) (w : World) (h : UR w B gu (.slice none 0 0) ln nv lm pp pv rv its) (hv : PReads w v [tkLong, tkNum n]) (hL : Xp.KLaid w) (hG : Sc.Glob w) (hn : its.length + 1 ≤ 100000) :
    Calls Tryz.prog 25 #[.pointer (some ⟨gu, 0, none⟩), v] w fun r w' => r = .returned (.int .i64 0) ∧ UR w' B gu (.slice none 0 0) ln nv lm pp pv rv (its ++ [numI ln 4 [] (wrap32 n)]) ∧ Fr gu B w w' ∧ KeepU w w' := by
  have HLB := Lib.hid (labels_none gu v _ w hv rfl)
  have HN := Lib.hid fun W (hb : Below w.heap.size w W) => next_any v _ W (hv.below hb (Nat.le_refl _))
  have HAW := Lib.hid fun W => aword_any 1 0 ⟨#[46, 108, 111, 110, 103]⟩ W
  have HOP : Hid (∀ v' W0 W, PReads W0 v' [tkNum n] → Below W0.heap.size W0 W → Below w.heap.size w W → Calls Tryz.prog 45 #[.pointer (some ⟨gu, 0, none⟩), v'] W fun r w' => (∃ ov, r = .returned (.tuple #[ov, .int .i64 0]) ∧ w'.ownsRow W.heap.size 172 4 ov 1 (opC [⟨⟨#[112]⟩, 0, ⟨#[]⟩, wrap32 n⟩])) ∧ Below W.heap.size W w') := fun v' W0 W hp hb0 hb => by
    refine operands_any gu v' [tkNum n] [⟨⟨#[112]⟩, 0, ⟨#[]⟩, wrap32 n⟩] W (hp.below hb0 (Nat.le_refl _)) (by simp) (by rw [pieces_one _ rfl]; rfl) ?_
    intro i hi u W2 hb2 hu
    have hi0 : i = 0 := by simp at hi; omega
    subst hi0
    have hu2 : PReads W2 u [tkNum n] := by simpa [pieces_one (tkNum n) rfl] using hu
    have hb3 : Below w.heap.size w W2 := hb.trans (hb2.mono hb.size)
    exact operand_atom gu u (tkNum n) ⟨#[]⟩ (wrap32 n) (.inl ⟨rfl, rfl, rfl⟩) W2 (KL.below hL hb3) (hG.below hb3 hG.sz) hu2 (by rw [hb3.cell (by show gu < w.heap.size; exact Nat.lt_of_lt_of_le h.lt h.le)]; exact h.cell0) (by show regU 2 _ < 0; unfold regU; rw [if_neg (by decide)]; decide)
  have HST : Hid (∀ W W' oa oc, Below w.heap.size w W → W.ownsRow 0 172 4 (.slice oa 1 oc) 1 (opC [⟨⟨#[112]⟩, 0, ⟨#[]⟩, wrap32 n⟩]) → Below W.heap.size W W' → Calls Tryz.prog 46 #[.pointer (some ⟨gu, 0, none⟩), .string ⟨#[46, 108, 111, 110, 103]⟩, .slice oa 1 oc] W' fun r w' => r = .returned (.int .i64 0) ∧ UR w' B gu (.slice none 0 0) ln nv lm pp pv rv (its ++ [numI ln 4 [] (wrap32 n)]) ∧ Fr gu B W' w' ∧ KeepU W' w') := fun W W' oa oc hb hr hb' => by
    have hfit : fitsU (wrap32 n) 32 = true := by unfold fitsU wrap32; simp; omega
    exact statement_long gu B _ nv lm pp pv rv ln its [wrap32 n] oa oc W W' (h.go (hb.trans (hb'.mono hb.size))) (by simp) (by simpa using hn) hr hb' (by intro m hm; simp at hm; subst hm; exact hfit)
  have hle := h.le
  obtain ⟨ad, cap, rfl, _⟩ := hv
  clear h hL hG
  unfold Tk.V tokV at *
  simp only [List.length_cons, List.length_nil, headT, tkLong, List.tail_cons] at *
  go_enter Tryz.func25, Tryz.ntmps25
  go_wp2_with fail
  refine HLB.out.mono ?_
  rintro e w1 ⟨rfl, hb1⟩
  have HB1 := Lib.hid hb1
  clear hb1 HLB
  go_wp2_with fail
  refine (HN.out _ HB1.out).mono ?_
  rintro e w2 ⟨⟨v2, rfl, hv2⟩, hb2⟩
  have hv3 := hv2
  obtain ⟨ad2, cap2, rfl, _⟩ := hv2
  simp only [List.length_singleton] at hv3 ⊢
  have HV := Lib.hid hv3
  have HB2 := Lib.hid (HB1.out.trans (hb2.mono HB1.out.size))
  have HB12 := Lib.hid hb2
  clear hv3 hb2 HN HB1
  go_wp2_with fail
  refine (HAW.out _).mono ?_
  rintro e w3 ⟨rfl, hb3⟩
  obtain ⟨hB3, hz3, xr⟩ := box_keep hb3
  have HB3 := Lib.hid (HB2.out.trans (hB3.mono HB2.out.size))
  have HB13 := Lib.hid (HB12.out.trans (hB3.mono HB12.out.size))
  have XR := Lib.hid xr
  clear hb3 hB3 xr
  go_wp2_with fail
  refine (HOP.out _ _ _ HV.out HB13.out HB3.out).mono ?_
  rintro e w4 ⟨⟨ov, rfl, hr4⟩, hb4⟩
  obtain ⟨oa, oc, hov⟩ := row_shape hr4
  subst hov
  have xr4 := (hb4.block _ hz3).trans XR.out
  have t2 : w4.cell? ⟨w2.heap.size, 2, none⟩ = some (.string ⟨#[46, 108, 111, 110, 103]⟩) := blk_cell xr4 rfl
  have hz4 := blk_lt xr4
  have HB4 := Lib.hid (HB3.out.trans (hb4.mono HB3.out.size))
  have HC := Lib.hid (HST.out w4 w4 oa oc HB4.out (Sc.ownsRow_base hr4 (Nat.zero_le _)) (Below.refl _ _))
  clear hr4 hb4 xr4 XR HST HOP HAW
  go_wp2_with (go_at_call 46; refine HC.out.mono ?_; rintro e w5 ⟨rfl, h1, h2, h3⟩)
  go_ret
  exact ⟨rfl, h1, (Fr.below (HB4.out.mono hle)).trans h2, (KeepU.of HB4.out).trans h3⟩

end Go.Proofs.YtagkmgdjkailkaaGreatDoor
