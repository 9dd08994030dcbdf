/- asm: a load off the pool. asm: instructions that lead. -/
import Derived.Test.YtjmjhbdlbmnllaaGreatDoorPut40
namespace Go.Proofs.YtjmjhbdlbmnllaaGreatDoor
open Go.RowKit

end Go.Proofs.YtjmjhbdlbmnllaaGreatDoor

namespace Go.Proofs.YtjmjhbdlbmnllaaGreatDoor
open Go.RowKit

set_option maxHeartbeats 4000000 in
/-- An instruction that leads to a value's place. -/
theorem instr_lead (gu B : Nat) (e nv lm pp pv rv : Value) (ln : Int) (its : List It) (name : ByteArray) (ops : List Opd) (o1 : Opd) (nm1 : List UInt8) (ho1 : ops.head? = some o1) (hnm1 : o1.nm = ⟨nm1.toArray⟩) (oa : Option Addr) (oc : Nat) (op : Int) (w : World) (h : UR w B gu e ln nv lm pp pv rv its) (hL : Isa.Laid w) (hF : FLaid w) (hr : OpsR w oa ops) (hn : ops.length ≤ 1000) (hkd : ∀ o, o ∈ ops → o.kd.data.toList.length = 1) (hnm : ∀ o, o ∈ ops → o.kd.toList = kdN → o.nm = ⟨#[]⟩)
    (hnot : formU ops ≠ [61, 114]) (hpl : (formU ops).head? = some 112) (hop : findU name ⟨(formU ops).toArray⟩ 12 0 = op) (h0 : op ≠ 0) (hw : Isa.wrongI (ops.foldl fillU ⟨op, 0, 0, 0⟩).op (ops.foldl fillU ⟨op, 0, 0, 0⟩).n (ops.foldl fillU ⟨op, 0, 0, 0⟩).m (ops.foldl fillU ⟨op, 0, 0, 0⟩).imm = 0) (hits : its.length ≤ 100000) :
    Calls Tryz.prog 102 #[.pointer (some ⟨gu, 0, none⟩), .string name, .slice oa ops.length oc] w fun r w' => r = .returned (.int .i64 0) ∧ UR w' B gu e ln nv lm pp pv rv (its ++ [leadI ln (ops.foldl fillU ⟨op, 0, 0, 0⟩).op (ops.foldl fillU ⟨op, 0, 0, 0⟩).n (ops.foldl fillU ⟨op, 0, 0, 0⟩).m (ops.foldl fillU ⟨op, 0, 0, 0⟩).imm (.val nm1 o1.n)]) ∧ Fr gu B w w' ∧ KeepM w w' := by
  have kpO : ∀ {W : World}, Below w.heap.size w W → OpsR W oa ops := fun {W} hb => hr.keep fun hq => by rw [hb.block _ (blk_lt hq)]; exact hq
  have HFO := Lib.hid fun W (hb : Below w.heap.size w W) => formOf_any ops oa oc W (kpO hb) hn hkd
  have HFD := Lib.hid fun W (hb : Below w.heap.size w W) => find_any name ⟨(formU ops).toArray⟩ W (hL.below hb hL.sz) (hF.below hb hF.sz)
  have HFL := Lib.hid fun W (hb : Below w.heap.size w W) => filled_any op ops oa oc W (hL.below hb hL.sz) (kpO hb) hn hnm
  rw [hop] at HFD
  rw [hw] at HFL
  have HLE : Hid (∀ fc W, Below w.heap.size w W → Calls Tryz.prog 145 #[.pointer (some ⟨gu, 0, none⟩), .agg #[.int .i64 (ops.foldl fillU ⟨op, 0, 0, 0⟩).op, .int .i64 (ops.foldl fillU ⟨op, 0, 0, 0⟩).n, .int .i64 (ops.foldl fillU ⟨op, 0, 0, 0⟩).m, .int .i64 (ops.foldl fillU ⟨op, 0, 0, 0⟩).imm], .func (.func 149) #[] fc] W fun r w' => (∃ gt gi fa, r = .returned (itV 0 2 1 2 fa (.func (.func 174) #[] #[.pointer (some ⟨gt, 0, none⟩), .pointer (some ⟨gi, 0, none⟩)])) ∧ fa = (if Isa.infoShape (ops.foldl fillU ⟨op, 0, 0, 0⟩).op = 4 then .func (.func 178) #[] #[.pointer (some ⟨gt, 0, none⟩)] else .nilFunc) ∧ w'.heap[gt]? = some (.cells #[.func (.func 149) #[] fc] 230 (0, 0)) ∧ w'.heap[gi]? = some (.cells #[.int .i64 (ops.foldl fillU ⟨op, 0, 0, 0⟩).op, .int .i64 (ops.foldl fillU ⟨op, 0, 0, 0⟩).n, .int .i64 (ops.foldl fillU ⟨op, 0, 0, 0⟩).m, .int .i64 (ops.foldl fillU ⟨op, 0, 0, 0⟩).imm] 39 (0, 0))) ∧ Below W.heap.size W w') := fun fc W hb => by
    refine (leading_any gu (ops.foldl fillU ⟨op, 0, 0, 0⟩).op (ops.foldl fillU ⟨op, 0, 0, 0⟩).n (ops.foldl fillU ⟨op, 0, 0, 0⟩).m (ops.foldl fillU ⟨op, 0, 0, 0⟩).imm (.func 149) #[] fc W (hL.below hb hL.sz)).mono ?_
    rintro r w' ⟨⟨gt, gi, h1, h2, h3⟩, h4⟩
    exact ⟨⟨gt, gi, _, h1, rfl, h2, h3⟩, h4⟩
  obtain ⟨b1, len1, cur1, hoa, hol, hbc, q0, q1, q2, q3⟩ : ∃ b len cur, oa = some ⟨b, 0, none⟩ ∧ ops.length = len + 1 ∧ w.heap[b]? = some (.cells cur 186 (0, 0)) ∧ cur[0]? = some (.string o1.kd) ∧ cur[1]? = some (.int .i64 o1.r) ∧ cur[2]? = some (.string ⟨nm1.toArray⟩) ∧ cur[3]? = some (.int .i64 o1.n) := by
    cases ops with
    | nil => simp at ho1
    | cons a r =>
      have : a = o1 := by simpa using ho1
      subst this
      obtain ⟨b, e, cur, h1, h2⟩ := hr (by simp)
      obtain ⟨k0, k1, k2, k3⟩ := h2 0 (by simp)
      simp only [Nat.zero_mul, Nat.zero_add, List.getElem_cons_zero] at k0 k1 k2 k3
      exact ⟨b, r.length, cur, e, by simp, h1, k0, k1, by rw [← hnm1]; exact k2, k3⟩
  have HOB := Lib.hid hbc
  have HGR : Hid (∀ W, W.heap[w.heap.size]? = some (.cells #[.pointer (some ⟨gu, 0, none⟩)] 127 (0, 0)) → W.heap[w.heap.size + 1]? = some (.cells #[.slice oa ops.length oc] 133 (0, 0)) → Below w.heap.size w W → GoalR W gu (.func (.func 149) #[] #[.pointer (some ⟨w.heap.size, 0, none⟩), .pointer (some ⟨w.heap.size + 1, 0, none⟩)]) (.val nm1 o1.n)) := fun W h1 h2 hb => ⟨_, _, b1, len1, oc, cur1, rfl, h1, by rw [← hoa, ← hol]; exact h2, by rw [hb.block _ (blk_lt hbc)]; exact hbc, ⟨_, _, q0, q1⟩, q2, q3⟩
  have HU := Lib.hid h
  have HAD := Lib.hid fun W gt gi tv fa (hfa : fa = (if Isa.infoShape (ops.foldl fillU ⟨op, 0, 0, 0⟩).op = 4 then .func (.func 178) #[] #[.pointer (some ⟨gt, 0, none⟩)] else .nilFunc)) (hb : Below w.heap.size w W) (hgt : W.heap[gt]? = some (.cells #[tv] 230 (0, 0))) (hgi : W.heap[gi]? = some (.cells #[.int .i64 (ops.foldl fillU ⟨op, 0, 0, 0⟩).op, .int .i64 (ops.foldl fillU ⟨op, 0, 0, 0⟩).n, .int .i64 (ops.foldl fillU ⟨op, 0, 0, 0⟩).m, .int .i64 (ops.foldl fillU ⟨op, 0, 0, 0⟩).imm] 39 (0, 0))) (hgo : GoalR W gu tv (.val nm1 o1.n)) => uadd_more gu B e nv lm pp pv rv fa (.func (.func 174) #[] #[.pointer (some ⟨gt, 0, none⟩), .pointer (some ⟨gi, 0, none⟩)]) ln 0 (leadI ln (ops.foldl fillU ⟨op, 0, 0, 0⟩).op (ops.foldl fillU ⟨op, 0, 0, 0⟩).n (ops.foldl fillU ⟨op, 0, 0, 0⟩).m (ops.foldl fillU ⟨op, 0, 0, 0⟩).imm (.val nm1 o1.n)) its W (HU.out.go hb) rfl ⟨gt, gi, tv, hfa, rfl, hgt, hgi, hgo⟩ hits
  have HFW : Hid (∀ W W', Below w.heap.size w W → Fr gu B W W' → Fr gu B w W') := fun W W' hb hf => (Fr.below (hb.mono HU.out.le)).trans hf
  unfold itV at HLE HAD
  simp only [leadI] at HAD
  clear hoa hol hbc q0 q1 q2 q3
  have hf1 : (formU ops == [61, 114]) = false := beq_eq_false_iff_ne.2 hnot
  have h0' : (op == 0) = false := beq_eq_false_iff_ne.2 h0
  clear hL hF hr kpO hkd hnm hw h hnm1 ho1
  generalize ops.foldl fillU ⟨op, 0, 0, 0⟩ = fi at *
  obtain ⟨fo, fn, fm, fi⟩ := fi
  simp only at *
  obtain ⟨FM, hFM⟩ : ∃ FM, formU ops = FM := ⟨_, rfl⟩
  rw [hFM] at HFO HFD hf1 hpl
  clear hFM hop hnot
  have HHP : Hid (∀ W, Calls Tryz.prog 121 #[.string ⟨FM.toArray⟩, .string ⟨#[112]⟩] W fun e w' => e = .returned (.bool true) ∧ W = w') := fun W => by
    refine (Tryz.strings_HasPrefix ⟨FM.toArray⟩ ⟨#[112]⟩ W).mono ?_
    rintro e w' ⟨rfl, rfl⟩
    refine ⟨?_, rfl⟩
    congr 2
    simp only
    cases FM with
    | nil => simp at hpl
    | cons a r =>
      have ha : a = 112 := by simpa using hpl
      subst ha
      rfl
  go_enter Tryz.func102, Tryz.ntmps102
  go_wp2_with fail
  refine (HFO.out _ (by go_grown)).mono ?_
  rintro e w1 ⟨rfl, hb1⟩
  have hB1 : Below w.heap.size w w1 := Below.trans (by go_grown) (hb1.mono (by go_size))
  have xu : w1.heap[w.heap.size]? = some (.cells #[.pointer (some ⟨gu, 0, none⟩)] 127 (0, 0)) := by rw [hb1.block _ (by go_size), old2 _ _ (by go_size)]; exact new_at _ _ rfl
  have xl : w1.heap[w.heap.size + 1]? = some (.cells #[.slice oa ops.length oc] 133 (0, 0)) := by rw [hb1.block _ (by go_size)]; exact new_at _ _ (by go_size)
  have HB1 := Lib.hid hB1
  have XU := Lib.hid xu
  have XL := Lib.hid xl
  have a0 : w1.cell? ⟨w.heap.size, 0, none⟩ = some (.pointer (some ⟨gu, 0, none⟩)) := blk_cell xu rfl
  have a1 : w1.cell? ⟨w.heap.size + 1, 0, none⟩ = some (.slice oa ops.length oc) := blk_cell xl rfl
  have z1 := blk_lt xl
  clear hb1 hB1 xu xl HFO
  go_wp2_with (first | (go_at_call 147; refine (HFD.out _ HB1.out).mono ?_; rintro e w2 ⟨rfl, hb2⟩; have HB2 := Lib.hid (HB1.out.trans (hb2.mono HB1.out.size)); have XU2 := Lib.hid ((hb2.block _ (blk_lt XU.out)).trans XU.out); have XL2 := Lib.hid ((hb2.block _ (blk_lt XL.out)).trans XL.out); have b0 : w2.cell? ⟨w.heap.size, 0, none⟩ = some (.pointer (some ⟨gu, 0, none⟩)) := blk_cell XU2.out rfl; have b1 : w2.cell? ⟨w.heap.size + 1, 0, none⟩ = some (.slice oa ops.length oc) := blk_cell XL2.out rfl; have z2 := blk_lt XL2.out; clear hb2) | fail)
  all_goals
    refine (HFL.out _ HB2.out).mono ?_
    rintro e w3 ⟨rfl, hb3⟩
    have HB3 := Lib.hid (HB2.out.trans (hb3.mono HB2.out.size))
    have XU3 := Lib.hid ((hb3.block _ (blk_lt XU2.out)).trans XU2.out)
    have d0 : w3.cell? ⟨w.heap.size, 0, none⟩ = some (.pointer (some ⟨gu, 0, none⟩)) := blk_cell XU3.out rfl
    have z3 := blk_lt XU3.out
    have XL3 := Lib.hid ((hb3.block _ (blk_lt XL2.out)).trans XL2.out)
    have zl3 := blk_lt XL3.out
    clear hb3 a0 a1 b0 b1
    go_wp2_with fail
  all_goals
    refine (HHP.out _).mono ?_
    rintro e w4 ⟨rfl, rfl⟩
    go_wp2_with fail
    have HB4 : Hid (Below w.heap.size w ((w3.alloc (.cells #[.int .i64 fo, .int .i64 fn, .int .i64 fm, .int .i64 fi] 39)).drew)) := (HB3.out.alloc HB3.out.size _).drew
    have XU4 : Hid ((w3.alloc (.cells #[.int .i64 fo, .int .i64 fn, .int .i64 fm, .int .i64 fi] 39)).drew.heap[w.heap.size]? = some (.cells #[.pointer (some ⟨gu, 0, none⟩)] 127 (0, 0))) := (old2 _ _ z3).trans XU3.out
    have XL4 : Hid ((w3.alloc (.cells #[.int .i64 fo, .int .i64 fn, .int .i64 fm, .int .i64 fi] 39)).drew.heap[w.heap.size + 1]? = some (.cells #[.slice oa ops.length oc] 133 (0, 0))) := (old2 _ _ zl3).trans XL3.out
    clear HB1 HB2 HFD HFL HHP XU XL XU2 XL2
    have xi4 : (w3.alloc (.cells #[.int .i64 fo, .int .i64 fn, .int .i64 fm, .int .i64 fi] 39)).drew.heap[w3.heap.size]? = some (.cells #[.int .i64 fo, .int .i64 fn, .int .i64 fm, .int .i64 fi] 39 (0, 0)) := new_at _ _ rfl
    refine wp_region_noPanic ?_
    refine wp_region_held_drew (S := fun X => X.heap[w.heap.size]? = some (.cells #[.pointer (some ⟨gu, 0, none⟩)] 127 (0, 0)) ∧ X.heap[w3.heap.size]? = some (.cells #[.int .i64 fo, .int .i64 fn, .int .i64 fm, .int .i64 fi] 39 (0, 0))) (by kernel_rfl) ⟨XU4.out, xi4⟩ (fun hHeld => ?_)
    clear xi4
    refine take_at 0 56 (v := ?_) rfl rfl (by kernel_rfl) (by kernel_rfl) (by kernel_rfl) (fun _ _ _ h => h) rfl ?_ hHeld ?_
    rotate_left
    · intro w hSw
      have y0 := cell_of_block (i := 0) hSw.1 rfl
      go_simp
      try with_reducible rfl
    simp only [List.setIfInBounds_toArray, List.set_cons_zero, List.set_cons_succ]
    refine take_at 1 57 (v := ?_) rfl rfl (by kernel_rfl) (by kernel_rfl) (by kernel_rfl) (fun _ _ _ h => h) rfl ?_ hHeld ?_
    rotate_left
    · intro w hSw
      have y0 := cell_of_block (i := 0) hSw.1 rfl
      go_simp
      try with_reducible rfl
    simp only [List.setIfInBounds_toArray, List.set_cons_zero, List.set_cons_succ]
    refine take_at 2 58 (v := ?_) rfl rfl (by kernel_rfl) (by kernel_rfl) (by kernel_rfl) (fun _ _ _ h => h) rfl ?_ hHeld ?_
    rotate_left
    · intro w hSw
      have y0 := cell_of_block (i := 0) hSw.2 rfl
      have y1 := cell_of_block (i := 1) hSw.2 rfl
      have y2 := cell_of_block (i := 2) hSw.2 rfl
      have y3 := cell_of_block (i := 3) hSw.2 rfl
      go_simp
      try with_reducible rfl
    simp only [List.setIfInBounds_toArray, List.set_cons_zero, List.set_cons_succ]
    refine take_at 3 59 (v := ?_) rfl rfl (by kernel_rfl) (by kernel_rfl) (by kernel_rfl) (fun _ _ _ h => h) rfl ?_ hHeld ?_
    rotate_left
    · intro w hSw
      go_simp
      try with_reducible rfl
    simp only [List.setIfInBounds_toArray, List.set_cons_zero, List.set_cons_succ]
    refine wpAnyH_ready (rs := [4]) (by kernel_rfl) (by simp) ?_
    refine AllReadyH.cons rfl (fun K hK => ?_) AllReadyH.nil
    go_simp
    refine (HLE.out _ _ HB4.out).mono ?_
    rintro e w5 ⟨⟨gt, gi, fa, rfl, hfa, hgt, hgi⟩, hb5⟩
    have HB5 := Lib.hid (HB4.out.trans (hb5.mono HB4.out.size))
    have xu5 := (hb5.block _ (blk_lt XU4.out)).trans XU4.out
    have xl5 := (hb5.block _ (blk_lt XL4.out)).trans XL4.out
    have xi5 := (hb5.block _ (blk_lt hHeld.2)).trans hHeld.2
    have HGO := Lib.hid (HGR.out _ xu5 xl5 HB5.out)
    have hcall := Lib.hid (HAD.out _ _ _ _ _ hfa HB5.out hgt hgi HGO.out)
    clear hb5 xl5 hgt hgi hfa
    go_simp
    refine hK.out _ _ ⟨xu5, xi5⟩ (fun hHeld => ?_)
    clear hK K xu5 xi5
    refine wpAnyH_ready (rs := [5]) (by kernel_rfl) (by simp) ?_
    refine AllReadyH.cons rfl (fun K hK => ?_) AllReadyH.nil
    go_simp
    refine hcall.out.mono ?_
    rintro e w6 ⟨rfl, hu6, hf6, hk6⟩
    have hS6 := And.intro (hk6.2 _ _ hHeld.1 (by intro c f e; cases e) (by intro c f e; cases e)) (hk6.2 _ _ hHeld.2 (by intro c f e; cases e) (by intro c f e; cases e))
    go_simp
    refine hK.out _ _ hS6 (fun hHeld => ?_)
    clear hK K hS6
    refine wpAnyH_done (by kernel_rfl) ?_ _
    refine NoPanic.normal ?_
    clear hHeld hcall
  all_goals
    have HU6 := Lib.hid hu6
    have HF6 := Lib.hid (HFW.out _ _ HB5.out hf6)
    have HK6 := Lib.hid ((KeepM.of HB5.out).trans hk6)
    clear hu6 hf6 hk6
    go_wp2_with fail
    go_ret
    exact ⟨rfl, HU6.out, HF6.out, HK6.out⟩

end Go.Proofs.YtjmjhbdlbmnllaaGreatDoor
