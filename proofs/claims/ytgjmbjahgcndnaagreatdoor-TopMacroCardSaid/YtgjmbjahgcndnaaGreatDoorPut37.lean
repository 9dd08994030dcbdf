import Derived.Test.YtgjmbjahgcndnaaGreatDoorPut36
set_option maxHeartbeats 4000000
namespace Go.Proofs.YtgjmbjahgcndnaaGreatDoor
open Go.RowKit
def qD5 (W W' : World) : Prop := W.heap.size <= W'.heap.size /\ ∀ (q : Nat) (o : Obj), W.heap[q]? = some o -> (∀ c f, o ≠ .cells c 141 f) -> (∀ c f, o ≠ .cells c 198 f) -> W'.heap[q]? = some o
theorem qD5.of {W W' : World} (h : Below W.heap.size W W') : qD5 W W' := ⟨h.size, fun q o hb _ _ => by rw [h.block q (qC hb)]; exact hb⟩
theorem qD5.trans {A B C : World} (h : qD5 A B) (k : qD5 B C) : qD5 A C := ⟨Nat.le_trans h.1 k.1, fun q o hb h1 h2 => k.2 q o (h.2 q o hb h1 h2) h1 h2⟩
theorem qLv (gu B : Nat) (e nv lm pp pv rv fa by' : Value) (ln li : Int) (x : It) (its : List It) (w : World) (h : UR w B gu e ln nv lm pp pv rv its) (hx : x.line = ln) (hg : GenR w gu x fa by') (hn : its.length <= 100000) :
  Calls Tryz.prog 94 #[.pointer (some ⟨gu, 0, none⟩), itV li x.size x.upTo x.align fa by'] w fun r w' => r = .returned (.tuple #[]) /\ UR w' B gu e ln nv lm pp pv rv (its ++ [x]) /\ Fr gu B w w' /\ qD5 w w' := by
 obtain ⟨iv, l, h1, h2, h3, h4⟩ := h.its
 obtain ⟨hfa, hby⟩ := hg.shape
 refine (add_any gu B its.length e nv lm iv pp pv rv fa by' ln li x.size x.upTo x.align (itC l) w h.le h1 h2 h.lt hn hfa hby).mono ?_
 rintro r w' ⟨rfl, ⟨iv', k1, k2⟩, k3, k4⟩
 have hk : qD5 w w' := ⟨k3.size, fun q o hb t1 t2 => by
  rw [k4 q (qC hb) (by rintro rfl; rw [h1] at hb; injection hb with hb; exact t1 _ _ hb.symm) (by
   rcases h2.2 with ⟨h5, _⟩ | ⟨g, cap, cur, h5, h6, h7, _⟩
   ·rw [h5]; simp [Value.ownBlock]
   ·rw [h5]
    intro e0
    have e1 : q = g := by simpa [Value.ownBlock] using e0
    subst e1
    rw [h7] at hb
    injection hb with hb
    exact t2 _ _ hb.symm)]
  exact hb⟩
 have hku : qKv w w' := ⟨hk.1, fun q c t f hb ht => hk.2 q _ hb (by rintro c' f' e0; injection e0 with _ e1; subst e1; exact absurd ht (by decide)) (by rintro c' f' e0; injection e0 with _ e1; subst e1; exact absurd ht (by decide))⟩
 refine ⟨rfl, ⟨h.lt, Nat.le_trans h.le k3.size, iv', l ++ [(x, fa, by')], k1, ?_, by simp [h3], ?_⟩, k3, hk⟩
 ·have e1 : itC (l ++ [(x, fa, by')]) = itC l ++ [.int .i64 ln, .int .i64 x.size, .int .i64 x.upTo, .int .i64 x.align, fa, by'] := by simp [itC, hx]
  rw [e1, List.length_append]
  exact k2
 ·intro p hp
  rcases List.mem_append.1 hp with hp | hp
  ·exact (h4 p hp).keep hku
  ·simp only [List.mem_singleton] at hp
   subst hp
   exact hg.keep hku
theorem qGz (gu B : Nat) (e nv lm pp pv rv : Value) (ln : Int) (its : List It) (name : ByteArray) (ops : List Opd) (oa : Option Addr) (oc : Nat) (op : Int) (w : World) (h : UR w B gu e ln nv lm pp pv rv its) (hL : Isa.Laid w) (hF : qGf w) (hr : OpsR w oa ops) (hn : ops.length <= 1000) (hkd : ∀ o, o ∈ ops -> o.kd.data.toList.length = 1) (hnm : ∀ o, o ∈ ops -> o.kd.toList = kdN -> o.nm = ⟨#[]⟩)
  (hnot : qAq ops ≠ [61, 114]) (hpl : (qAq ops).head? ≠ some 112) (hop : qB7 name ⟨(qAq ops).toArray⟩ 12 0 = op) (h0 : op ≠ 0) (hw : Isa.qV (ops.foldl qx ⟨op, 0, 0, 0⟩).op (ops.foldl qx ⟨op, 0, 0, 0⟩).n (ops.foldl qx ⟨op, 0, 0, 0⟩).m (ops.foldl qx ⟨op, 0, 0, 0⟩).imm = 0) (hits : its.length <= 100000) :
  Calls Tryz.prog 134 #[.pointer (some ⟨gu, 0, none⟩), .string name, .slice oa ops.length oc] w fun r w' => r = .returned (.int .i64 0) /\ UR w' B gu e ln nv lm pp pv rv (its ++ [qAf ln (ops.foldl qx ⟨op, 0, 0, 0⟩).op (ops.foldl qx ⟨op, 0, 0, 0⟩).n (ops.foldl qx ⟨op, 0, 0, 0⟩).m (ops.foldl qx ⟨op, 0, 0, 0⟩).imm]) /\ Fr gu B w w' /\ qD5 w w' := by
 have kpO : ∀ {W : World}, Below w.heap.size w W -> OpsR W oa ops := fun {W} hb => hr.keep fun hq => by rw [hb.block _ (qC hq)]; exact hq
 have HFO := Lib.hid fun W (hb : Below w.heap.size w W) => qI0 ops oa oc W (kpO hb) hn hkd
 have HFD := Lib.hid fun W (hb : Below w.heap.size w W) => qEy name ⟨(qAq ops).toArray⟩ W (hL.below hb hL.sz) (hF.below hb hF.sz)
 have HFL := Lib.hid fun W (hb : Below w.heap.size w W) => qIW op ops oa oc W (hL.below hb hL.sz) (kpO hb) hn hnm
 rw [hop] at HFD
 rw [hw] at HFL
 have HPL := Lib.hid fun W => qJw (ops.foldl qx ⟨op, 0, 0, 0⟩).op (ops.foldl qx ⟨op, 0, 0, 0⟩).n (ops.foldl qx ⟨op, 0, 0, 0⟩).m (ops.foldl qx ⟨op, 0, 0, 0⟩).imm W
 have HU := Lib.hid h
 have HAD := Lib.hid fun W g (hb : Below w.heap.size w W) (hg : W.heap[g]? = some (.cells #[.int .i64 (ops.foldl qx ⟨op, 0, 0, 0⟩).op, .int .i64 (ops.foldl qx ⟨op, 0, 0, 0⟩).n, .int .i64 (ops.foldl qx ⟨op, 0, 0, 0⟩).m, .int .i64 (ops.foldl qx ⟨op, 0, 0, 0⟩).imm] 71 (0, 0))) => qLv gu B e nv lm pp pv rv .nilFunc (.func (.func 205) #[] #[.pointer (some ⟨g, 0, none⟩)]) ln 0 (qAf ln (ops.foldl qx ⟨op, 0, 0, 0⟩).op (ops.foldl qx ⟨op, 0, 0, 0⟩).n (ops.foldl qx ⟨op, 0, 0, 0⟩).m (ops.foldl qx ⟨op, 0, 0, 0⟩).imm) its W (HU.out.go hb) rfl ⟨rfl, g, rfl, hg⟩ hits
 have HFW : Hid (∀ W W', Below w.heap.size w W -> Fr gu B W W' -> Fr gu B w W') := fun W W' hb hf => (Fr.below (hb.mono HU.out.le)).trans hf
 unfold itV at HPL HAD
 simp only [qAf] at HAD
 have hf1 : (qAq ops == [61, 114]) = false := beq_eq_false_iff_ne.2 hnot
 have h0' : (op == 0) = false := beq_eq_false_iff_ne.2 h0
 clear hL hF hr kpO hkd hnm hw h
 generalize ops.foldl qx ⟨op, 0, 0, 0⟩ = fi at *
 obtain ⟨fo, fn, fm, fi⟩ := fi
 simp only at *
 obtain ⟨FM, hFM⟩ : ∃ FM, qAq ops = FM := ⟨_, rfl⟩
 rw [hFM] at HFO HFD hf1 hpl
 clear hFM hop hnot
 have HHP : Hid (∀ W, Calls Tryz.prog 145 #[.string ⟨FM.toArray⟩, .string ⟨#[112]⟩] W fun e w' => e = .returned (.bool false) /\ W = w') := fun W => by
  refine (Tryz.strings_HasPrefix ⟨FM.toArray⟩ ⟨#[112]⟩ W).mono ?_
  rintro e w' ⟨rfl, rfl⟩
  refine ⟨?_, rfl⟩
  congr 2
  simp only
  cases FM with
  | nil => rfl
  | cons a r =>
    have ha : a ≠ 112 := by simpa using hpl
    show (List.isPrefixOf [112] (a :: r)) = false
    simp only [List.isPrefixOf, Bool.and_eq_false_iff, beq_eq_false_iff_ne]
    exact .inl (Ne.symm ha)
 go_enter Tryz.func134, Tryz.ntmps134
 go_wp2_with fail
 refine (HFO.out _ (by go_grown)).mono ?_
 rintro e w1 ⟨rfl, hb1⟩
 have hB1 : Below w.heap.size w w1 := Below.trans (by go_grown) (hb1.mono (by go_size))
 have xu : w1.heap[w.heap.size]? = some (.cells #[.pointer (some ⟨gu, 0, none⟩)] 185 (0, 0)) := by rw [hb1.block _ (by go_size), old2 _ _ (by go_size)]; exact qH _ _ rfl
 have xl : w1.heap[w.heap.size + 1]? = some (.cells #[.slice oa ops.length oc] 191 (0, 0)) := by rw [hb1.block _ (by go_size)]; exact qH _ _ (by go_size)
 have HB1 := Lib.hid hB1
 have XU := Lib.hid xu
 have XL := Lib.hid xl
 have a0 : w1.cell? ⟨w.heap.size, 0, none⟩ = some (.pointer (some ⟨gu, 0, none⟩)) := qB xu rfl
 have a1 : w1.cell? ⟨w.heap.size + 1, 0, none⟩ = some (.slice oa ops.length oc) := qB xl rfl
 have z1 := qC xl
 clear hb1 hB1 xu xl HFO
 go_wp2_with (first | (go_at_call 170; refine (HFD.out _ HB1.out).mono ?_; rintro e w2 ⟨rfl, hb2⟩; have HB2 := Lib.hid (HB1.out.trans (hb2.mono HB1.out.size)); have XU2 := Lib.hid ((hb2.block _ (qC XU.out)).trans XU.out); have XL2 := Lib.hid ((hb2.block _ (qC XL.out)).trans XL.out); have b0 : w2.cell? ⟨w.heap.size, 0, none⟩ = some (.pointer (some ⟨gu, 0, none⟩)) := qB XU2.out rfl; have b1 : w2.cell? ⟨w.heap.size + 1, 0, none⟩ = some (.slice oa ops.length oc) := qB XL2.out rfl; have z2 := qC XL2.out; clear hb2) | fail)
 all_goals
  refine (HFL.out _ HB2.out).mono ?_
  rintro e w3 ⟨rfl, hb3⟩
  have HB3 := Lib.hid (HB2.out.trans (hb3.mono HB2.out.size))
  have XU3 := Lib.hid ((hb3.block _ (qC XU2.out)).trans XU2.out)
  have d0 : w3.cell? ⟨w.heap.size, 0, none⟩ = some (.pointer (some ⟨gu, 0, none⟩)) := qB XU3.out rfl
  have z3 := qC XU3.out
  clear hb3 a0 a1 b0 b1
  go_wp2_with fail
 all_goals
  refine (HHP.out _).mono ?_
  rintro e w4 ⟨rfl, rfl⟩
  go_wp2_with fail
  have HB4 : Hid (Below w.heap.size w ((w3.alloc (.cells #[.int .i64 fo, .int .i64 fn, .int .i64 fm, .int .i64 fi] 71)).drew)) := (HB3.out.alloc HB3.out.size _).drew
  have XU4 : Hid ((w3.alloc (.cells #[.int .i64 fo, .int .i64 fn, .int .i64 fm, .int .i64 fi] 71)).drew.heap[w.heap.size]? = some (.cells #[.pointer (some ⟨gu, 0, none⟩)] 185 (0, 0))) := (old2 _ _ z3).trans XU3.out
  clear HB1 HB2 HFD HFL HHP XU XL XU2 XL2
  go_region_with (first
   | (go_at_call 173; refine (HPL.out _).mono ?_; rintro e w5 ⟨⟨g, rfl, _, hgi⟩, hb5⟩; have HB5 := Lib.hid (HB4.out.trans (hb5.mono HB4.out.size)); have xu5 := (hb5.block _ (qC XU4.out)).trans XU4.out; have e0 : w5.cell? ⟨w.heap.size, 0, none⟩ = some (.pointer (some ⟨gu, 0, none⟩)) := qB xu5 rfl; have z5 := qC xu5; have HGI := Lib.hid hgi; clear hb5 xu5 hgi)
   | (go_at_call 94; refine (HAD.out _ _ HB5.out HGI.out).mono ?_; rintro e w6 ⟨rfl, hu6, hf6, hk6⟩))
 all_goals
  have HU6 := Lib.hid hu6
  have HF6 := Lib.hid (HFW.out _ _ HB5.out hf6)
  have HK6 := Lib.hid ((qD5.of HB5.out).trans hk6)
  clear hu6 hf6 hk6
  go_wp2_with fail
  go_ret
  exact ⟨rfl, HU6.out, HF6.out, HK6.out⟩
def dirs : List (List UInt8) := [[46, 98, 121, 116, 101], [46, 119, 111, 114, 100], [46, 108, 111, 110, 103], [46, 97, 108, 105, 103, 110], [46, 112, 111, 111, 108]]
theorem qGJ (gu : Nat) (name : ByteArray) (oa : Option Addr) (on oc : Nat) (w : World) (Q : World -> Prop) (hn : name.toList ∉ dirs) (h : Calls Tryz.prog 134 #[.pointer (some ⟨gu, 0, none⟩), .string name, .slice oa on oc] w fun r w' => r = .returned (.int .i64 0) /\ Q w') :
  Calls Tryz.prog 93 #[.pointer (some ⟨gu, 0, none⟩), .string name, .slice oa on oc] w fun r w' => r = .returned (.int .i64 0) /\ Q w' := by
 have H := Lib.hid h
 simp only [dirs, List.mem_cons, List.not_mem_nil, or_false, not_or] at hn
 obtain ⟨n1, n2, n3, n4, n5⟩ := hn
 replace n1 := beq_eq_false_iff_ne.2 n1
 replace n2 := beq_eq_false_iff_ne.2 n2
 replace n3 := beq_eq_false_iff_ne.2 n3
 replace n4 := beq_eq_false_iff_ne.2 n4
 replace n5 := beq_eq_false_iff_ne.2 n5
 clear h
 go_enter Tryz.func93, Tryz.ntmps93
 go_wp2_with (first | (go_at_call 134; refine H.out.mono ?_; rintro e w1 ⟨rfl, hq⟩) | fail)
 go_ret
 exact ⟨rfl, hq⟩
end Go.Proofs.YtgjmbjahgcndnaaGreatDoor
