import Derived.Test.YtfmljailbebfgaaGreatDoorPut19
set_option maxHeartbeats 4000000
set_option maxRecDepth 100000
namespace Go.Proofs.YtfmljailbebfgaaGreatDoor.Si
open Go.RowKit Isa
theorem qCp (m : Ma) (op n mm imm at' size : Int) (h : (op = 23 /\ size = 2) \/ (op = 24 /\ size = 4)) : qAN m op n mm imm at' = (if hasB m (toI op imm at') size = false then 3 else 0) /\ qX m op n mm imm at' = (if hasB m (toI op imm at') size = false then m else setR m n.toNat (qC8 m (toI op imm at') size)) := by
 rcases h with ⟨rfl, rfl⟩ | ⟨rfl, rfl⟩
 ·constructor
  ·unfold qAN qEe qEP
   simp
  ·unfold qX qEe qEP
   simp
 ·constructor
  ·unfold qAN qEe qEP
   simp
  ·unfold qX qEe qEP
   simp
theorem do_load (K g : Nat) (m : Ma) (gb bc : Nat) (s0 : Option Addr) (s1 s2 : Nat) (ta : Option Addr) (tc : Nat) (op n mm imm at' : Int) (W : World) (h : MR K g m gb bc (.slice s0 s1 s2) ta tc W) (hM : MOk m) (ha0 : 0 <= at') (ha1 : at' <= 1000000000000) (hi0 : -10000 <= imm) (hi1 : imm <= 10000) (hn0 : 0 <= n) (hn1 : n <= 15) (hop : op = 23 \/ op = 24) :
  Calls Tryz.prog 31 #[.pointer (some ⟨g, 0, none⟩), .agg #[.int .i64 op, .int .i64 n, .int .i64 mm, .int .i64 imm], .int .i64 at'] W fun e W' => e = .returned (.int .i64 (qAN m op n mm imm at')) /\ PP K K g gb bc (.slice s0 s1 s2) (qX m op n mm imm at') W W' := by
 obtain ⟨V, hV⟩ : ∃ V, V = W.alloc (.cells #[.int .i64 op, .int .i64 n, .int .i64 mm, .int .i64 imm] 73) := ⟨_, rfl⟩
 have hb : Below W.heap.size W V := by rw [hV]; exact qD _ _
 have kV : V.heap[W.heap.size]? = some (.cells #[.int .i64 op, .int .i64 n, .int .i64 mm, .int .i64 imm] 73 (0, 0)) := by rw [hV]; exact qJ _ _ _
 have c0 := qA (i := 0) kV rfl
 have c1 := qA (i := 1) kV rfl
 have c2 := qA (i := 2) kV rfl
 have c3 := qA (i := 3) kV rfl
 have HV := Lib.hid hV.symm
 rcases hop with hop | hop
 ·have HC : Hid (Calls Tryz.prog 54 #[.pointer (some ⟨g, 0, none⟩), .agg #[.int .i64 op, .int .i64 n, .int .i64 mm, .int .i64 imm], .int .i64 at', .int .i64 2] V fun e W' => e = .returned (.int .i64 (qAN m op n mm imm at')) /\ PP K K g gb bc (.slice s0 s1 s2) (qX m op n mm imm at') W W') := by
   rw [(qCp m op n mm imm at' 2 (Or.inl ⟨hop, rfl⟩)).1, (qCp m op n mm imm at' 2 (Or.inl ⟨hop, rfl⟩)).2]
   exact (qIE K g m gb bc s0 s1 s2 ta tc op n mm imm at' 2 V (h.next hb) (Or.inl rfl) hM ha0 ha1 hi0 hi1 hn0 hn1).mono fun _ _ ⟨h1, h2⟩ => ⟨h1, PP.after hb h2 h.kz⟩
  have ho1 : 23 <= op := by omega
  have ho2 : op <= 23 := by omega
  clear hV hb kV h hM hop
  generalize qAN m op n mm imm at' = EE at *
  generalize qX m op n mm imm at' = MM at *
  go_enter Tryz.func31, Tryz.ntmps31
  go_upto_region 1 with fail
  rw [HV.out]
  clear HV
  go_wp2_with (first | (go_at_call 54; refine HC.out.mono ?_; rintro e W2 ⟨rfl, hp2⟩; have HP2 := Lib.hid hp2; clear hp2) | fail)
  go_ret
  exact ⟨rfl, HP2.out⟩
 ·have HC : Hid (Calls Tryz.prog 54 #[.pointer (some ⟨g, 0, none⟩), .agg #[.int .i64 op, .int .i64 n, .int .i64 mm, .int .i64 imm], .int .i64 at', .int .i64 4] V fun e W' => e = .returned (.int .i64 (qAN m op n mm imm at')) /\ PP K K g gb bc (.slice s0 s1 s2) (qX m op n mm imm at') W W') := by
   rw [(qCp m op n mm imm at' 4 (Or.inr ⟨hop, rfl⟩)).1, (qCp m op n mm imm at' 4 (Or.inr ⟨hop, rfl⟩)).2]
   exact (qIE K g m gb bc s0 s1 s2 ta tc op n mm imm at' 4 V (h.next hb) (Or.inr rfl) hM ha0 ha1 hi0 hi1 hn0 hn1).mono fun _ _ ⟨h1, h2⟩ => ⟨h1, PP.after hb h2 h.kz⟩
  have ho1 : 24 <= op := by omega
  have ho2 : op <= 24 := by omega
  clear hV hb kV h hM hop
  generalize qAN m op n mm imm at' = EE at *
  generalize qX m op n mm imm at' = MM at *
  go_enter Tryz.func31, Tryz.ntmps31
  go_upto_region 1 with fail
  rw [HV.out]
  clear HV
  go_wp2_with (first | (go_at_call 54; refine HC.out.mono ?_; rintro e W2 ⟨rfl, hp2⟩; have HP2 := Lib.hid hp2; clear hp2) | fail)
  go_ret
  exact ⟨rfl, HP2.out⟩
def Res (op : Int) : Prop := op <= 10 \/ False \/ op = 24 \/ False \/ op = 27
theorem qIu (K g : Nat) (m : Ma) (gb bc : Nat) (s0 : Option Addr) (s1 s2 : Nat) (ta : Option Addr) (tc : Nat) (op n mm imm at' : Int) (W : World) (h : MR K g m gb bc (.slice s0 s1 s2) ta tc W) (hM : MOk m) (hr : ∀ k, in32 (m.r k)) (_hbc : m.by'.length <= bc) (ha0 : 0 <= at') (ha1 : at' <= 1000000000000) (hi0 : -10000 <= imm) (hi1 : imm <= 10000) (hn0 : 0 <= n) (hn1 : n <= 15) (hm0 : 0 <= mm) (hm1 : mm <= 15) (ho : op = 1 \/ (3 <= op /\ op <= 16) \/ (23 <= op /\ op <= 27)) (hres : Res op) :
  Calls Tryz.prog 31 #[.pointer (some ⟨g, 0, none⟩), .agg #[.int .i64 op, .int .i64 n, .int .i64 mm, .int .i64 imm], .int .i64 at'] W fun e W' => e = .returned (.int .i64 (qAN m op n mm imm at')) /\ PP K K g gb bc (.slice s0 s1 s2) (qX m op n mm imm at') W W' := by
 by_cases h1 : op <= 10
 ·exact do_made K g m gb bc s0 s1 s2 ta tc op n mm imm at' W h hM hr ha0 ha1 hi0 hi1 hn0 hn1 hm0 hm1 (by omega)
 ·rcases hres with e | e | e | e | e
  ·exact absurd e h1
  ·exact e.elim
  ·exact do_load K g m gb bc s0 s1 s2 ta tc op n mm imm at' W h hM ha0 ha1 hi0 hi1 hn0 hn1 (.inr e)
  ·exact e.elim
  ·exact do_told K g m gb bc s0 s1 s2 ta tc op n mm imm at' W h hM hr ha0 ha1 hi0 hi1 hn0 hn1 hm0 hm1 e
def qCu (m : Ma) (op n imm : Int) : Int := if op = 2 then m.pr else if op = 21 \/ op = 22 then m.r n.toNat else toI op imm m.pc
theorem qC6 (K g : Nat) (m : Ma) (gb bc : Nat) (sv : Value) (ta : Option Addr) (tc : Nat) (op n mm imm : Int) (W : World) (h : MR K g m gb bc sv ta tc W) (hp0 : 0 <= m.pc) (hp1 : m.pc <= 2097152) (hi0 : -10000 <= imm) (hi1 : imm <= 10000) (hn0 : 0 <= n) (hn1 : n <= 15) (hop : op = 2 \/ (17 <= op /\ op <= 22)) :
  Calls Tryz.prog 52 #[.pointer (some ⟨g, 0, none⟩), .agg #[.int .i64 op, .int .i64 n, .int .i64 mm, .int .i64 imm]] W fun e W' => e = .returned (.int .i64 (qCu m op n imm)) /\ Below W.heap.size W W' := by
 obtain ⟨V, hV⟩ : ∃ V, V = W.alloc (.cells #[.int .i64 op, .int .i64 n, .int .i64 mm, .int .i64 imm] 73) := ⟨_, rfl⟩
 have hb : Below W.heap.size W V := by rw [hV]; exact qD _ _
 have kV : V.heap[W.heap.size]? = some (.cells #[.int .i64 op, .int .i64 n, .int .i64 mm, .int .i64 imm] 73 (0, 0)) := by rw [hV]; exact qJ _ _ _
 have c0 := qA (i := 0) kV rfl
 have c1 := qA (i := 1) kV rfl
 have c2 := qA (i := 2) kV rfl
 have c3 := qA (i := 3) kV rfl
 have hMV := h.next hb
 obtain ⟨_, e17, e18, _⟩ := hMV.cells
 have er := hMV.rn n.toNat (by omega)
 have hn2 : n < 16 := by omega
 have HV := Lib.hid hV.symm
 have HB := Lib.hid hb
 have HBq : Hid (∀ nq, Below W.heap.size W (V.drewN nq)) := fun nq => hb.trans (Go.Joins.below_draws _ V nq)
 have hto := qD6 op imm m.pc hp0 hi0 hi1
 have hT := to_any op n mm imm m.pc
 have HT : Hid (∀ X, Below V.heap.size V X -> Calls Tryz.prog 84 #[.agg #[.int .i64 op, .int .i64 n, .int .i64 mm, .int .i64 imm], .int .i64 m.pc] X fun e w' => e = .returned (.tuple #[.int .i64 (toI op imm m.pc), .bool (toB op)]) /\ Below X.heap.size X w') := fun X hX => hT X (hMV.next hX).la hp0 (by omega) hi0 hi1
 have HKV : Hid (∀ X, Below V.heap.size V X -> X.cell? ⟨W.heap.size, 0, none⟩ = some (.int .i64 op) /\ X.cell? ⟨W.heap.size, 1, none⟩ = some (.int .i64 n) /\ X.cell? ⟨W.heap.size, 2, none⟩ = some (.int .i64 mm) /\ X.cell? ⟨W.heap.size, 3, none⟩ = some (.int .i64 imm) /\ X.cell? ⟨g, 17, none⟩ = some (.int .i64 m.pc) /\ Below V.heap.size V X) := fun X hX => by
  have k := (hX.block _ (Array.getElem?_eq_some_iff.1 kV).1).trans kV
  exact ⟨qA (i := 0) k rfl, qA (i := 1) k rfl, qA (i := 2) k rfl, qA (i := 3) k rfl, (hMV.next hX).cells.2.1, hX⟩
 have HS : Hid (∀ X, Calls Tryz.prog 60 #[.int .i64 (toI op imm m.pc)] X fun e w' => e = .returned (.int .i64 (toI op imm m.pc)) /\ X = w') := fun X => by
  have := qFv (toI op imm m.pc) X
  rw [qKZ (by omega) (by omega)] at this
  exact this
 by_cases h1 : op = 2
 ·have HE : Hid (qCu m op n imm = m.pr) := by unfold Hid qCu; rw [if_pos h1]
  have ho1 : 2 <= op := by omega
  have ho2 : op <= 2 := by omega
  clear hV hb kV h hMV hT hop h1
  go_enter Tryz.func52, Tryz.ntmps52
  go_upto_region 1 with fail
  rw [HV.out]
  go_wp2
  go_ret
  exact ⟨by rw [HE.out]; rfl, HB.out⟩
 ·by_cases h2 : op = 21 \/ op = 22
  ·have HE : Hid (qCu m op n imm = m.r n.toNat) := by unfold Hid qCu; rw [if_neg h1, if_pos h2]
   have ho1 : 21 <= op := by omega
   have ho2 : op <= 22 := by omega
   clear hV hb kV h hMV hT hop h1
   go_enter Tryz.func52, Tryz.ntmps52
   go_upto_region 1 with fail
   rw [HV.out]
   go_wp2_with fail
   all_goals
    go_quiet (fail)
    go_wp2
    go_ret
    exact ⟨by rw [HE.out]; rfl, HBq.out _⟩
  ·have HE : Hid (qCu m op n imm = toI op imm m.pc) := by unfold Hid qCu; rw [if_neg h1, if_neg h2]
   have ho1 : 17 <= op := by omega
   have ho2 : op <= 20 := by omega
   clear hV hb kV h hMV hT hop h1 h2
   generalize toI op imm m.pc = to' at *
   generalize toB op = tb at *
   go_enter Tryz.func52, Tryz.ntmps52
   go_upto_region 1 with fail
   rw [HV.out]
   go_wp2_with fail
   go_region_held3 (fun w' => w'.cell? ⟨W.heap.size, 0, none⟩ = some (.int .i64 op) /\ w'.cell? ⟨W.heap.size, 1, none⟩ = some (.int .i64 n) /\ w'.cell? ⟨W.heap.size, 2, none⟩ = some (.int .i64 mm) /\ w'.cell? ⟨W.heap.size, 3, none⟩ = some (.int .i64 imm) /\ w'.cell? ⟨g, 17, none⟩ = some (.int .i64 m.pc) /\ Below V.heap.size V w')
    (first | assumption | exact HKV.out _ (Below.refl _ _).drew | exact HKV.out _ HX1.out | exact HKV.out _ HX1.out.drew)
    (first | (go_at_call 84; refine (HT.out _ (Below.refl _ _).drew).mono ?_; rintro e X1 ⟨rfl, hb1⟩; have HX1 : Hid (Below V.heap.size V X1) := Lib.hid ((Below.refl V.heap.size V).drew.trans (hb1.mono (by simp))); clear hb1))
   go_wp2_with (first | (go_at_call 60; refine (HS.out _).mono ?_; rintro e w' ⟨rfl, rfl⟩) | fail)
   go_ret
   exact ⟨by rw [HE.out]; rfl, HB.out.trans (HX1.out.mono HB.out.size)⟩
def betE (m : Ma) (a : Int) : Int := if qe m a ≠ 0 then qe m a else if qAX (fV m a 0) = true \/ fV m a 0 = 27 then 8 else qAN m (fV m a 0) (fV m a 1) (fV m a 2) (fV m a 3) a
def betM (m : Ma) (a : Int) : Ma := qX m (fV m a 0) (fV m a 1) (fV m a 2) (fV m a 3) a
theorem qES (K g : Nat) (m : Ma) (gb bc : Nat) (s0 : Option Addr) (s1 s2 : Nat) (ta : Option Addr) (tc : Nat) (a : Int) (W : World) (h : MR K g m gb bc (.slice s0 s1 s2) ta tc W) (hM : MOk m) (hr : ∀ k, in32 (m.r k)) (hbc : m.by'.length <= bc) (ha0 : 0 <= a) (ha1 : a <= 1000000000) (hres : Res (fV m a 0)) :
  Calls Tryz.prog 53 #[.pointer (some ⟨g, 0, none⟩), .int .i64 a] W fun e W' => e = .returned (.int .i64 (betE m a)) /\ Kept K g gb W W' /\ (betE m a = 0 -> ∃ ta' tc', MR K g (betM m a) gb bc (.slice s0 s1 s2) ta' tc' W') := by
 obtain ⟨_, _, _, c19, c20, c21, _, _⟩ := h.cells
 have HI := Lib.hid (qCh m (some ⟨gb, 0, none⟩) bc (.slice s0 s1 s2) a W h.brd h.la hM.b0 hM.b1 (by have := hM.bl; omega) (by omega) (by omega))
 obtain ⟨b1, b2, b3, b4, b5, b6⟩ := qJs m a
 have hDo : ∀ X, Below W.heap.size W X -> (fV m a 0 = 1 \/ (3 <= fV m a 0 /\ fV m a 0 <= 16) \/ (23 <= fV m a 0 /\ fV m a 0 <= 27)) -> Calls Tryz.prog 31 #[.pointer (some ⟨g, 0, none⟩), .agg #[.int .i64 (fV m a 0), .int .i64 (fV m a 1), .int .i64 (fV m a 2), .int .i64 (fV m a 3)], .int .i64 a] X fun e W' => e = .returned (.int .i64 (qAN m (fV m a 0) (fV m a 1) (fV m a 2) (fV m a 3) a)) /\ PP K K g gb bc (.slice s0 s1 s2) (betM m a) W W' := fun X hX ho =>
  (qIu K g m gb bc s0 s1 s2 ta tc _ _ _ _ a X (h.next hX) hM hr hbc ha0 (by omega) b5 b6 b1 b2 b3 b4 ho hres).mono fun _ _ ⟨h1, h2⟩ => ⟨h1, (h.kn hX).trans h2.1, h2.2⟩
 clear hres
 have HKN : Hid (∀ X, Below W.heap.size W X -> Kept K g gb W X) := fun X hX => h.kn hX
 have HLE := Lib.hid qBz
 by_cases he : qe m a = 0
 ·have hIn := qIh hM.b0 he
  by_cases hl : qAX (fV m a 0) = true
  ·have HE : Hid (betE m a = 8) := by unfold Hid betE; rw [if_neg (by simp [he]), if_pos (Or.inl hl)]
   rw [he] at HI
   have HL : Hid (∀ X, Calls Tryz.prog 29 #[.int .i64 (fV m a 0)] X fun e w' => e = .returned (.bool true) /\ X = w') := fun X => by
    have := HLE.out (fV m a 0) X
    rw [hl] at this
    exact this
   clear h hM hr hDo HLE hl he
   generalize betE m a = EE at *
   generalize fV m a 0 = d0 at *
   generalize fV m a 1 = d1 at *
   generalize fV m a 2 = d2 at *
   generalize fV m a 3 = d3 at *
   go_enter Tryz.func53, Tryz.ntmps53
   go_wp2_with (first | (go_at_call 28; refine HI.out.mono ?_; rintro e W1 ⟨rfl, hb1⟩; have HB1 := Lib.hid (hb1.trans ((qD W1 (.cells #[.int .i64 d0, .int .i64 d1, .int .i64 d2, .int .i64 d3] 73)).mono hb1.size)); clear hb1) | (go_at_call 29; refine (HL.out _).mono ?_; rintro e w' ⟨rfl, rfl⟩) | fail)
   go_ret
   exact ⟨by rw [HE.out]; rfl, HKN.out _ HB1.out, fun h0 => absurd (HE.out.symm.trans h0) (by decide)⟩
  ·have hl' : qAX (fV m a 0) = false := by simpa using hl
   have HL : Hid (∀ X, Calls Tryz.prog 29 #[.int .i64 (fV m a 0)] X fun e w' => e = .returned (.bool false) /\ X = w') := fun X => by
    have := HLE.out (fV m a 0) X
    rw [hl'] at this
    exact this
   by_cases h27 : fV m a 0 = 27
   ·have HE : Hid (betE m a = 8) := by unfold Hid betE; rw [if_neg (by simp [he]), if_pos (Or.inr h27)]
    rw [he] at HI
    have ho1 : 27 <= fV m a 0 := by omega
    have ho2 : fV m a 0 <= 27 := by omega
    clear h hM hr hDo HLE hl he hl' h27 hIn
    generalize betE m a = EE at *
    generalize fV m a 0 = d0 at *
    generalize fV m a 1 = d1 at *
    generalize fV m a 2 = d2 at *
    generalize fV m a 3 = d3 at *
    go_enter Tryz.func53, Tryz.ntmps53
    go_wp2_with (first | (go_at_call 28; refine HI.out.mono ?_; rintro e W1 ⟨rfl, hb1⟩; have HB1 := Lib.hid (hb1.trans ((qD W1 (.cells #[.int .i64 d0, .int .i64 d1, .int .i64 d2, .int .i64 d3] 73)).mono hb1.size)); clear hb1) | (go_at_call 29; refine (HL.out _).mono ?_; rintro e w' ⟨rfl, rfl⟩) | fail)
    go_ret
    exact ⟨by rw [HE.out]; rfl, HKN.out _ HB1.out, fun h0 => absurd (HE.out.symm.trans h0) (by decide)⟩
   ·have HE : Hid (betE m a = qAN m (fV m a 0) (fV m a 1) (fV m a 2) (fV m a 3) a) := by unfold Hid betE; rw [if_neg (by simp [he]), if_neg (by rintro (q | q) <;> contradiction)]
    have hop : fV m a 0 = 1 \/ (3 <= fV m a 0 /\ fV m a 0 <= 16) \/ (23 <= fV m a 0 /\ fV m a 0 <= 27) := by
     unfold qAX at hl'
     simp at hl'
     omega
    have HD : Hid (∀ X, Below W.heap.size W X -> Calls Tryz.prog 31 #[.pointer (some ⟨g, 0, none⟩), .agg #[.int .i64 (fV m a 0), .int .i64 (fV m a 1), .int .i64 (fV m a 2), .int .i64 (fV m a 3)], .int .i64 a] X fun e W' => e = .returned (.int .i64 (betE m a)) /\ PP K K g gb bc (.slice s0 s1 s2) (betM m a) W W') := fun X hX => by
     rw [HE.out]
     exact hDo X hX hop
    rw [he] at HI
    have h27b : (fV m a 0 == 27) = false := by simpa using h27
    clear h hM hr hDo HLE hl he hl' h27 hIn hop HE
    generalize betE m a = EE at *
    generalize betM m a = MM at *
    generalize fV m a 0 = d0 at *
    generalize fV m a 1 = d1 at *
    generalize fV m a 2 = d2 at *
    generalize fV m a 3 = d3 at *
    go_enter Tryz.func53, Tryz.ntmps53
    go_wp2_with (first | (go_at_call 28; refine HI.out.mono ?_; rintro e W1 ⟨rfl, hb1⟩; have HB1 := Lib.hid (hb1.trans ((qD W1 (.cells #[.int .i64 d0, .int .i64 d1, .int .i64 d2, .int .i64 d3] 73)).mono hb1.size)); clear hb1) | (go_at_call 29; refine (HL.out _).mono ?_; rintro e w' ⟨rfl, rfl⟩) | (go_at_call 31; refine (HD.out _ HB1.out).mono ?_; rintro e W2 ⟨rfl, hp2⟩; have HP2 := Lib.hid hp2; clear hp2) | fail)
    go_ret
    exact ⟨rfl, HP2.out.1, fun _ => HP2.out.2⟩
 ·have HE : Hid (betE m a = qe m a) := by unfold Hid betE; rw [if_pos he]
  have heb : (qe m a != 0) = true := by simpa using he
  have HN : Hid (qe m a ≠ 0) := he
  clear h hM hr hDo HLE he
  generalize betE m a = EE at *
  generalize qe m a = ee at *
  generalize fV m a 0 = d0 at *
  generalize fV m a 1 = d1 at *
  generalize fV m a 2 = d2 at *
  generalize fV m a 3 = d3 at *
  go_enter Tryz.func53, Tryz.ntmps53
  go_wp2_with (first | (go_at_call 28; refine HI.out.mono ?_; rintro e W1 ⟨rfl, hb1⟩; have HB1 := Lib.hid (hb1.trans ((qD W1 (.cells #[.int .i64 d0, .int .i64 d1, .int .i64 d2, .int .i64 d3] 73)).mono hb1.size)); clear hb1) | fail)
  go_ret
  exact ⟨by rw [HE.out]; rfl, HKN.out _ HB1.out, fun h0 => absurd (HE.out.symm.trans h0) HN.out⟩
def qHB (m : Ma) (op : Int) : Ma := if op = 20 \/ op = 22 then { m with pr := m.pc + 4 } else m
def qD3 (m : Ma) (op : Int) : Int := if op = 17 \/ op = 18 then 0 else betE (qHB m op) (m.pc + 2)
def qD1 (m : Ma) (op n imm : Int) : Ma := if op = 17 \/ op = 18 then { m with pc := if m.t = decide (op = 17) then toI op imm m.pc else m.pc + 2 } else { betM (qHB m op) (m.pc + 2) with pc := qCu m op n imm }
def qGd (K g gb bc : Nat) (sv : Value) (E : Int) (M : Ma) (W : World) (e : Ending) (W' : World) : Prop := e = .returned (.int .i64 E) /\ Kept K g gb W W' /\ (E = 0 -> ∃ ta' tc', MR K g M gb bc sv ta' tc' W')
theorem lead_b (K g : Nat) (m : Ma) (gb bc : Nat) (s0 : Option Addr) (s1 s2 : Nat) (ta : Option Addr) (tc : Nat) (op n mm imm : Int) (W : World) (h : MR K g m gb bc (.slice s0 s1 s2) ta tc W) (hp0 : 0 <= m.pc) (hp1 : m.pc <= 2097152) (hi0 : -10000 <= imm) (hi1 : imm <= 10000) (hn0 : 0 <= n) (hn1 : n <= 15) (hop : op = 17 \/ op = 18) :
  Calls Tryz.prog 30 #[.pointer (some ⟨g, 0, none⟩), .agg #[.int .i64 op, .int .i64 n, .int .i64 mm, .int .i64 imm]] W (qGd K g gb bc (.slice s0 s1 s2) (qD3 m op) (qD1 m op n imm) W) := by
 have eE : qD3 m op = 0 := by unfold qD3; rw [if_pos hop]
 have eM : qD1 m op n imm = { m with pc := if m.t = decide (op = 17) then toI op imm m.pc else m.pc + 2 } := by unfold qD1; rw [if_pos hop]
 have eG : qCu m op n imm = toI op imm m.pc := by unfold qCu; rw [if_neg (by omega), if_neg (by omega)]
 rw [eE, eM]
 have HG : Hid (∀ X, Below W.heap.size W X -> Calls Tryz.prog 52 #[.pointer (some ⟨g, 0, none⟩), .agg #[.int .i64 op, .int .i64 n, .int .i64 mm, .int .i64 imm]] X fun e W' => e = .returned (.int .i64 (toI op imm m.pc)) /\ Below X.heap.size X W') := fun X hX => by
  rw [<- eG]
  exact qC6 K g m gb bc (.slice s0 s1 s2) ta tc op n mm imm X (h.next hX) hp0 hp1 hi0 hi1 hn0 hn1 (by omega)
 have HBH : Hid (∀ X, Calls Tryz.prog 32 #[.int .i64 m.pc, .int .i64 2] X fun e w' => e = .returned (.int .i64 (m.pc + 2)) /\ X = w') := fun X => qB0 m.pc 2 X (by omega) (by omega)
 have HF : Hid (∀ (X : World) (v : Int), Below W.heap.size W X -> qGd K g gb bc (.slice s0 s1 s2) 0 { m with pc := v } W (.returned (.int .i64 0)) (X.setCell ⟨g, 17, none⟩ (.int .i64 v))) := fun X v hX => ⟨rfl, h.keepSet hX 17 _, fun _ => ⟨ta, tc, (h.next hX).setpc v⟩⟩
 have HC : Hid (∀ X, Below W.heap.size W X -> X.cell? ⟨g, 16, none⟩ = some (.bool m.t) /\ X.cell? ⟨g, 17, none⟩ = some (.int .i64 m.pc) /\ X.frozen? ⟨g, 17, none⟩ = false) := fun X hX => ⟨(h.next hX).cells.1, (h.next hX).cells.2.1, (h.next hX).fz 17⟩
 have HK : Hid (∀ X : World, Below (W.alloc (.cells #[.int .i64 op, .int .i64 n, .int .i64 mm, .int .i64 imm] 73)).heap.size (W.alloc (.cells #[.int .i64 op, .int .i64 n, .int .i64 mm, .int .i64 imm] 73)) X -> X.cell? ⟨W.heap.size, 0, none⟩ = some (.int .i64 op) /\ Below W.heap.size W X) := fun X hX => by
  have k := (hX.block _ (by simp)).trans (qJ W #[.int .i64 op, .int .i64 n, .int .i64 mm, .int .i64 imm] 73)
  exact ⟨qA (i := 0) k rfl, (qD _ _).trans (hX.mono (by simp))⟩
 obtain ⟨pv, hpv⟩ : ∃ x, x = (if m.t = decide (op = 17) then toI op imm m.pc else m.pc + 2) := ⟨_, rfl⟩
 rw [<- hpv]
 obtain ⟨tt, htt⟩ : ∃ tt, tt = m.t := ⟨_, rfl⟩
 rw [<- htt] at HC hpv
 clear h htt eE eM eG
 generalize toI op imm m.pc = to' at *
 rcases hop with hop | hop
 ·rw [show decide (op = 17) = true by simpa using hop] at hpv
  have ho1 : 17 <= op := by omega
  have ho2 : op <= 17 := by omega
  clear hop
  cases tt
  ·have HPV : Hid (pv = m.pc + 2) := hpv
   clear hpv
   go_enter Tryz.func30, Tryz.ntmps30
   go_wp2_with (first | (go_at_call 52; refine (HG.out _ (qD _ _)).mono ?_; rintro e W1 ⟨rfl, hb1⟩; obtain ⟨y0, hbW⟩ := HK.out W1 hb1; have HB1 := Lib.hid hbW; obtain ⟨z16, z17, zf⟩ := HC.out W1 hbW; clear hb1 hbW) | fail)
   go_quiet (fail)
   go_wp2_with (first | (go_at_call 32; refine (HBH.out _).mono ?_; rintro e w' ⟨rfl, rfl⟩) | fail)
   go_ret
   rw [HPV.out]
   exact HF.out _ _ (HB1.out.trans (Go.Joins.below_draws _ W1 nq))
  ·have HPV : Hid (pv = to') := hpv
   clear hpv
   go_enter Tryz.func30, Tryz.ntmps30
   go_wp2_with (first | (go_at_call 52; refine (HG.out _ (qD _ _)).mono ?_; rintro e W1 ⟨rfl, hb1⟩; obtain ⟨y0, hbW⟩ := HK.out W1 hb1; have HB1 := Lib.hid hbW; obtain ⟨z16, z17, zf⟩ := HC.out W1 hbW; clear hb1 hbW) | fail)
   go_quiet (fail)
   go_wp2_with (first | (go_at_call 32; refine (HBH.out _).mono ?_; rintro e w' ⟨rfl, rfl⟩) | fail)
   go_ret
   rw [HPV.out]
   exact HF.out _ _ (HB1.out.trans (Go.Joins.below_draws _ W1 nq))
 ·rw [show decide (op = 17) = false by simp; omega] at hpv
  have ho1 : 18 <= op := by omega
  have ho2 : op <= 18 := by omega
  clear hop
  cases tt
  ·have HPV : Hid (pv = to') := hpv
   clear hpv
   go_enter Tryz.func30, Tryz.ntmps30
   go_wp2_with (first | (go_at_call 52; refine (HG.out _ (qD _ _)).mono ?_; rintro e W1 ⟨rfl, hb1⟩; obtain ⟨y0, hbW⟩ := HK.out W1 hb1; have HB1 := Lib.hid hbW; obtain ⟨z16, z17, zf⟩ := HC.out W1 hbW; clear hb1 hbW) | fail)
   go_quiet (fail)
   go_wp2_with (first | (go_at_call 32; refine (HBH.out _).mono ?_; rintro e w' ⟨rfl, rfl⟩) | fail)
   go_ret
   rw [HPV.out]
   exact HF.out _ _ (HB1.out.trans (Go.Joins.below_draws _ W1 nq))
  ·have HPV : Hid (pv = m.pc + 2) := hpv
   clear hpv
   go_enter Tryz.func30, Tryz.ntmps30
   go_wp2_with (first | (go_at_call 52; refine (HG.out _ (qD _ _)).mono ?_; rintro e W1 ⟨rfl, hb1⟩; obtain ⟨y0, hbW⟩ := HK.out W1 hb1; have HB1 := Lib.hid hbW; obtain ⟨z16, z17, zf⟩ := HC.out W1 hbW; clear hb1 hbW) | fail)
   go_quiet (fail)
   go_wp2_with (first | (go_at_call 32; refine (HBH.out _).mono ?_; rintro e w' ⟨rfl, rfl⟩) | fail)
   go_ret
   rw [HPV.out]
   exact HF.out _ _ (HB1.out.trans (Go.Joins.below_draws _ W1 nq))
theorem lead_n (K g : Nat) (m : Ma) (gb bc : Nat) (s0 : Option Addr) (s1 s2 : Nat) (ta : Option Addr) (tc : Nat) (op n mm imm : Int) (W : World) (h : MR K g m gb bc (.slice s0 s1 s2) ta tc W) (hM : MOk m) (hr : ∀ k, in32 (m.r k)) (hbc : m.by'.length <= bc) (hp0 : 0 <= m.pc) (hp1 : m.pc <= 2097152) (hi0 : -10000 <= imm) (hi1 : imm <= 10000) (hn0 : 0 <= n) (hn1 : n <= 15) (hop : op = 2 \/ op = 19 \/ op = 21) (hres : Res (fV m (m.pc + 2) 0)) :
  Calls Tryz.prog 30 #[.pointer (some ⟨g, 0, none⟩), .agg #[.int .i64 op, .int .i64 n, .int .i64 mm, .int .i64 imm]] W (qGd K g gb bc (.slice s0 s1 s2) (qD3 m op) (qD1 m op n imm) W) := by
 have hP : qHB m op = m := by unfold qHB; rw [if_neg (by omega)]
 have eE : qD3 m op = betE m (m.pc + 2) := by unfold qD3; rw [if_neg (by omega), hP]
 have eM : qD1 m op n imm = { betM m (m.pc + 2) with pc := qCu m op n imm } := by unfold qD1; rw [if_neg (by omega), hP]
 rw [eE, eM]
 have HG : Hid (∀ X, Below W.heap.size W X -> Calls Tryz.prog 52 #[.pointer (some ⟨g, 0, none⟩), .agg #[.int .i64 op, .int .i64 n, .int .i64 mm, .int .i64 imm]] X fun e W' => e = .returned (.int .i64 (qCu m op n imm)) /\ Below X.heap.size X W') := fun X hX => qC6 K g m gb bc (.slice s0 s1 s2) ta tc op n mm imm X (h.next hX) hp0 hp1 hi0 hi1 hn0 hn1 (by omega)
 have HBH : Hid (∀ X, Calls Tryz.prog 32 #[.int .i64 m.pc, .int .i64 2] X fun e w' => e = .returned (.int .i64 (m.pc + 2)) /\ X = w') := fun X => qB0 m.pc 2 X (by omega) (by omega)
 have HBT : Hid (∀ X, Below W.heap.size W X -> Calls Tryz.prog 53 #[.pointer (some ⟨g, 0, none⟩), .int .i64 (m.pc + 2)] X fun e W' => e = .returned (.int .i64 (betE m (m.pc + 2))) /\ Kept K g gb W W' /\ (betE m (m.pc + 2) = 0 -> ∃ ta' tc', MR K g (betM m (m.pc + 2)) gb bc (.slice s0 s1 s2) ta' tc' W')) := fun X hX =>
  (qES K g m gb bc s0 s1 s2 ta tc (m.pc + 2) X (h.next hX) hM hr hbc (by omega) (by omega) hres).mono fun _ _ ⟨h1, h2, h3⟩ => ⟨h1, (h.kn hX).trans h2, h3⟩
 clear hres
 have HC : Hid (∀ X, Below W.heap.size W X -> X.cell? ⟨g, 17, none⟩ = some (.int .i64 m.pc) /\ X.cell? ⟨g, 18, none⟩ = some (.int .i64 m.pr) /\ X.frozen? ⟨g, 18, none⟩ = false) := fun X hX => ⟨(h.next hX).cells.2.1, (h.next hX).cells.2.2.1, (h.next hX).fz 18⟩
 have HK : Hid (∀ X : World, Below (W.alloc (.cells #[.int .i64 op, .int .i64 n, .int .i64 mm, .int .i64 imm] 73)).heap.size (W.alloc (.cells #[.int .i64 op, .int .i64 n, .int .i64 mm, .int .i64 imm] 73)) X -> X.cell? ⟨W.heap.size, 0, none⟩ = some (.int .i64 op) /\ Below W.heap.size W X) := fun X hX => by
  have k := (hX.block _ (by simp)).trans (qJ W #[.int .i64 op, .int .i64 n, .int .i64 mm, .int .i64 imm] 73)
  exact ⟨qA (i := 0) k rfl, (qD _ _).trans (hX.mono (by simp))⟩
 obtain ⟨EE, hEE⟩ : ∃ x, x = betE m (m.pc + 2) := ⟨_, rfl⟩
 obtain ⟨MM, hMM⟩ : ∃ x, x = betM m (m.pc + 2) := ⟨_, rfl⟩
 rw [<- hEE, <- hMM] at HBT
 rw [<- hEE, <- hMM]
 have q17 : (op == 17) = false := by simp; omega
 have q18 : (op == 18) = false := by simp; omega
 have q20 : (op == 20) = false := by simp; omega
 have q22 : (op == 22) = false := by simp; omega
 clear h hM hr hEE hMM hP eE eM hop
 generalize qCu m op n imm = to' at *
 by_cases h0 : EE = 0
 ·subst h0
  go_enter Tryz.func30, Tryz.ntmps30
  go_wp2_with (first | (go_at_call 52; refine (HG.out _ (qD _ _)).mono ?_; rintro e W1 ⟨rfl, hb1⟩; obtain ⟨y0, hbW⟩ := HK.out W1 hb1; have HB1 := Lib.hid hbW; obtain ⟨z17, z18, zf⟩ := HC.out W1 hbW; clear hb1 hbW) | (go_at_call 32; refine (HBH.out _).mono ?_; rintro e w' ⟨rfl, rfl⟩) | (go_at_call 53; refine (HBT.out _ HB1.out).mono ?_; rintro e W2 ⟨rfl, hk2, hm2⟩; obtain ⟨ta2, tc2, hm3⟩ := hm2 (by first | rfl | trivial); have HK2 := Lib.hid hk2; have HM2 := Lib.hid hm3; have x17 := hm3.cells.2.1; have xf := hm3.fz 17; clear hk2 hm2 hm3) | fail)
  all_goals
   go_ret
   exact ⟨rfl, HK2.out.trans (Kept.cell ⟨g, 17, none⟩ _), fun _ => ⟨_, _, HM2.out.setpc _⟩⟩
 ·have h0b : (EE != 0) = true := by simpa using h0
  have HN := Lib.hid h0
  clear h0
  go_enter Tryz.func30, Tryz.ntmps30
  go_wp2_with (first | (go_at_call 52; refine (HG.out _ (qD _ _)).mono ?_; rintro e W1 ⟨rfl, hb1⟩; obtain ⟨y0, hbW⟩ := HK.out W1 hb1; have HB1 := Lib.hid hbW; obtain ⟨z17, z18, zf⟩ := HC.out W1 hbW; clear hb1 hbW) | (go_at_call 32; refine (HBH.out _).mono ?_; rintro e w' ⟨rfl, rfl⟩) | (go_at_call 53; refine (HBT.out _ HB1.out).mono ?_; rintro e W2 ⟨rfl, hk2, hm2⟩; have HK2 := Lib.hid hk2; clear hk2 hm2) | fail)
  all_goals
   go_ret
   exact ⟨rfl, HK2.out, fun h1 => absurd h1 HN.out⟩
theorem lead_p (K g : Nat) (m : Ma) (gb bc : Nat) (s0 : Option Addr) (s1 s2 : Nat) (ta : Option Addr) (tc : Nat) (op n mm imm : Int) (W : World) (h : MR K g m gb bc (.slice s0 s1 s2) ta tc W) (hM : MOk m) (hr : ∀ k, in32 (m.r k)) (hbc : m.by'.length <= bc) (hp0 : 0 <= m.pc) (hp1 : m.pc <= 2097152) (hi0 : -10000 <= imm) (hi1 : imm <= 10000) (hn0 : 0 <= n) (hn1 : n <= 15) (hop : op = 20 \/ op = 22) (hres : Res (fV m (m.pc + 2) 0)) :
  Calls Tryz.prog 30 #[.pointer (some ⟨g, 0, none⟩), .agg #[.int .i64 op, .int .i64 n, .int .i64 mm, .int .i64 imm]] W (qGd K g gb bc (.slice s0 s1 s2) (qD3 m op) (qD1 m op n imm) W) := by
 have hP : qHB m op = ({ m with pr := m.pc + 4 } : Ma) := by unfold qHB; rw [if_pos hop]
 have eE : qD3 m op = betE ({ m with pr := m.pc + 4 } : Ma) (m.pc + 2) := by unfold qD3; rw [if_neg (by omega), hP]
 have eM : qD1 m op n imm = { betM ({ m with pr := m.pc + 4 } : Ma) (m.pc + 2) with pc := qCu m op n imm } := by unfold qD1; rw [if_neg (by omega), hP]
 rw [eE, eM]
 have HG : Hid (∀ X, Below W.heap.size W X -> Calls Tryz.prog 52 #[.pointer (some ⟨g, 0, none⟩), .agg #[.int .i64 op, .int .i64 n, .int .i64 mm, .int .i64 imm]] X fun e W' => e = .returned (.int .i64 (qCu m op n imm)) /\ Below X.heap.size X W') := fun X hX => qC6 K g m gb bc (.slice s0 s1 s2) ta tc op n mm imm X (h.next hX) hp0 hp1 hi0 hi1 hn0 hn1 (by omega)
 have HBH : Hid (∀ X, Calls Tryz.prog 32 #[.int .i64 m.pc, .int .i64 2] X fun e w' => e = .returned (.int .i64 (m.pc + 2)) /\ X = w') := fun X => qB0 m.pc 2 X (by omega) (by omega)
 have HBT : Hid (∀ X, Below W.heap.size W X -> Calls Tryz.prog 53 #[.pointer (some ⟨g, 0, none⟩), .int .i64 (m.pc + 2)] (X.setCell ⟨g, 18, none⟩ (.int .i64 (m.pc + 4))) fun e W' => e = .returned (.int .i64 (betE ({ m with pr := m.pc + 4 } : Ma) (m.pc + 2))) /\ Kept K g gb W W' /\ (betE ({ m with pr := m.pc + 4 } : Ma) (m.pc + 2) = 0 -> ∃ ta' tc', MR K g (betM ({ m with pr := m.pc + 4 } : Ma) (m.pc + 2)) gb bc (.slice s0 s1 s2) ta' tc' W')) := fun X hX =>
  (qES K g ({ m with pr := m.pc + 4 } : Ma) gb bc s0 s1 s2 ta tc (m.pc + 2) _ ((h.next hX).setpr (m.pc + 4)) ⟨hM.b0, hM.b1, hM.bl, hM.tl⟩ hr hbc (by omega) (by omega) hres).mono fun _ _ ⟨h1, h2, h3⟩ => ⟨h1, (h.keepSet hX 18 _).trans h2, h3⟩
 clear hres
 have HB4 : Hid (∀ X, Calls Tryz.prog 32 #[.int .i64 m.pc, .int .i64 4] X fun e w' => e = .returned (.int .i64 (m.pc + 4)) /\ X = w') := fun X => qB0 m.pc 4 X (by omega) (by omega)
 have HC : Hid (∀ X, Below W.heap.size W X -> X.cell? ⟨g, 17, none⟩ = some (.int .i64 m.pc) /\ X.cell? ⟨g, 18, none⟩ = some (.int .i64 m.pr) /\ X.frozen? ⟨g, 18, none⟩ = false) := fun X hX => ⟨(h.next hX).cells.2.1, (h.next hX).cells.2.2.1, (h.next hX).fz 18⟩
 have HK : Hid (∀ X : World, Below (W.alloc (.cells #[.int .i64 op, .int .i64 n, .int .i64 mm, .int .i64 imm] 73)).heap.size (W.alloc (.cells #[.int .i64 op, .int .i64 n, .int .i64 mm, .int .i64 imm] 73)) X -> X.cell? ⟨W.heap.size, 0, none⟩ = some (.int .i64 op) /\ Below W.heap.size W X) := fun X hX => by
  have k := (hX.block _ (by simp)).trans (qJ W #[.int .i64 op, .int .i64 n, .int .i64 mm, .int .i64 imm] 73)
  exact ⟨qA (i := 0) k rfl, (qD _ _).trans (hX.mono (by simp))⟩
 obtain ⟨EE, hEE⟩ : ∃ x, x = betE ({ m with pr := m.pc + 4 } : Ma) (m.pc + 2) := ⟨_, rfl⟩
 obtain ⟨MM, hMM⟩ : ∃ x, x = betM ({ m with pr := m.pc + 4 } : Ma) (m.pc + 2) := ⟨_, rfl⟩
 rw [<- hEE, <- hMM] at HBT
 rw [<- hEE, <- hMM]
 have ho1 : 20 <= op := by omega
 have ho2 : op <= 22 := by omega
 have ho3 : op ≠ 21 := by omega
 clear h hM hr hEE hMM hP eE eM hop
 generalize qCu m op n imm = to' at *
 by_cases h0 : EE = 0
 ·subst h0
  go_enter Tryz.func30, Tryz.ntmps30
  go_wp2_with (first | (go_at_call 52; refine (HG.out _ (qD _ _)).mono ?_; rintro e W1 ⟨rfl, hb1⟩; obtain ⟨y0, hbW⟩ := HK.out W1 hb1; have HB1 := Lib.hid hbW; obtain ⟨z17, z18, zf⟩ := HC.out W1 hbW; clear hb1 hbW) | (go_at_call 32; refine (HBH.out _).mono ?_; rintro e w' ⟨rfl, rfl⟩) | (go_at_call 32; refine (HB4.out _).mono ?_; rintro e w' ⟨rfl, rfl⟩) | (go_at_call 53; refine (HBT.out _ HB1.out).mono ?_; rintro e W2 ⟨rfl, hk2, hm2⟩; obtain ⟨ta2, tc2, hm3⟩ := hm2 (by first | rfl | trivial); have HK2 := Lib.hid hk2; have HM2 := Lib.hid hm3; have x17 := hm3.cells.2.1; have xf := hm3.fz 17; clear hk2 hm2 hm3) | fail)
  all_goals
   go_ret
   exact ⟨rfl, HK2.out.trans (Kept.cell ⟨g, 17, none⟩ _), fun _ => ⟨_, _, HM2.out.setpc _⟩⟩
 ·have h0b : (EE != 0) = true := by simpa using h0
  have HN := Lib.hid h0
  clear h0
  go_enter Tryz.func30, Tryz.ntmps30
  go_wp2_with (first | (go_at_call 52; refine (HG.out _ (qD _ _)).mono ?_; rintro e W1 ⟨rfl, hb1⟩; obtain ⟨y0, hbW⟩ := HK.out W1 hb1; have HB1 := Lib.hid hbW; obtain ⟨z17, z18, zf⟩ := HC.out W1 hbW; clear hb1 hbW) | (go_at_call 32; refine (HBH.out _).mono ?_; rintro e w' ⟨rfl, rfl⟩) | (go_at_call 32; refine (HB4.out _).mono ?_; rintro e w' ⟨rfl, rfl⟩) | (go_at_call 53; refine (HBT.out _ HB1.out).mono ?_; rintro e W2 ⟨rfl, hk2, hm2⟩; have HK2 := Lib.hid hk2; clear hk2 hm2) | fail)
  all_goals
   go_ret
   exact ⟨rfl, HK2.out, fun h1 => absurd h1 HN.out⟩
theorem lead_any (K g : Nat) (m : Ma) (gb bc : Nat) (s0 : Option Addr) (s1 s2 : Nat) (ta : Option Addr) (tc : Nat) (op n mm imm : Int) (W : World) (h : MR K g m gb bc (.slice s0 s1 s2) ta tc W) (hM : MOk m) (hr : ∀ k, in32 (m.r k)) (hbc : m.by'.length <= bc) (hp0 : 0 <= m.pc) (hp1 : m.pc <= 2097152) (hi0 : -10000 <= imm) (hi1 : imm <= 10000) (hn0 : 0 <= n) (hn1 : n <= 15) (hop : op = 2 \/ (17 <= op /\ op <= 22)) (hres : ¬ (op = 17 \/ op = 18) -> Res (fV m (m.pc + 2) 0)) :
  Calls Tryz.prog 30 #[.pointer (some ⟨g, 0, none⟩), .agg #[.int .i64 op, .int .i64 n, .int .i64 mm, .int .i64 imm]] W (qGd K g gb bc (.slice s0 s1 s2) (qD3 m op) (qD1 m op n imm) W) := by
 by_cases h1 : op = 17 \/ op = 18
 ·exact lead_b K g m gb bc s0 s1 s2 ta tc op n mm imm W h hp0 hp1 hi0 hi1 hn0 hn1 h1
 ·by_cases h2 : op = 20 \/ op = 22
  ·exact lead_p K g m gb bc s0 s1 s2 ta tc op n mm imm W h hM hr hbc hp0 hp1 hi0 hi1 hn0 hn1 h2 (hres h1)
  ·exact lead_n K g m gb bc s0 s1 s2 ta tc op n mm imm W h hM hr hbc hp0 hp1 hi0 hi1 hn0 hn1 (by omega) (hres h1)
end Go.Proofs.YtfmljailbebfgaaGreatDoor.Si
