/- The program's own sim: do, of any instruction; where one leads. The program's own sim: goal, between. -/
import Derived.Test.YtabepbaldadmgaaDoorSnI
import Derived.Test.YtabepbaldadmgaaDoorSnJ
namespace Go.Proofs.YtabepbaldadmgaaDoor
open Go.RowKit Isa

theorem load_plain (m : Ma) (op n mm imm at' size : Int) (h : (op = 23 ∧ size = 2) ∨ (op = 24 ∧ size = 4)) : plainE m op n mm imm at' = (if hasB m (toI op imm at') size = false then 3 else 0) ∧ plainM m op n mm imm at' = (if hasB m (toI op imm at') size = false then m else setR m n.toNat (loadS m (toI op imm at') size)) := by
  rcases h with ⟨rfl, rfl⟩ | ⟨rfl, rfl⟩
  · constructor
    · unfold plainE memAt memSz
      simp
    · unfold plainM memAt memSz
      simp
  · constructor
    · unfold plainE memAt memSz
      simp
    · unfold plainM memAt memSz
      simp

set_option maxHeartbeats 4000000 in
theorem do_load (K g : Nat) (m : Ma) (gb bc : Nat) (s0 : Option Addr) (s1 s2 : Nat) (ta : Option Addr) (tc : Nat) (op n mm imm at' : Int) (W : World) (h : MR K g m gb bc (.slice s0 s1 s2) ta tc W) (hM : MOk m) (ha0 : 0 ≤ at') (ha1 : at' ≤ 1000000000000) (hi0 : -10000 ≤ imm) (hi1 : imm ≤ 10000) (hn0 : 0 ≤ n) (hn1 : n ≤ 15) (hop : op = 23 ∨ op = 24) :
    Calls Tryd.prog 35 #[.pointer (some ⟨g, 0, none⟩), .agg #[.int .i64 op, .int .i64 n, .int .i64 mm, .int .i64 imm], .int .i64 at'] W fun e W' => e = .returned (.int .i64 (plainE m op n mm imm at')) ∧ PP K K g gb bc (.slice s0 s1 s2) (plainM m op n mm imm at') W W' := by
  obtain ⟨V, hV⟩ : ∃ V, V = W.alloc (.cells #[.int .i64 op, .int .i64 n, .int .i64 mm, .int .i64 imm] 45) := ⟨_, rfl⟩
  have hb : Below W.heap.size W V := by rw [hV]; exact oalloc _ _
  have kV : V.heap[W.heap.size]? = some (.cells #[.int .i64 op, .int .i64 n, .int .i64 mm, .int .i64 imm] 45 (0, 0)) := by rw [hV]; exact blk_new _ _ _
  have c0 := cell_of_block (i := 0) kV rfl
  have c1 := cell_of_block (i := 1) kV rfl
  have c2 := cell_of_block (i := 2) kV rfl
  have c3 := cell_of_block (i := 3) kV rfl
  have HV := Lib.hid hV.symm
  rcases hop with hop | hop
  · have HC : Hid (Calls Tryd.prog 45 #[.pointer (some ⟨g, 0, none⟩), .agg #[.int .i64 op, .int .i64 n, .int .i64 mm, .int .i64 imm], .int .i64 at', .int .i64 2] V fun e W' => e = .returned (.int .i64 (plainE m op n mm imm at')) ∧ PP K K g gb bc (.slice s0 s1 s2) (plainM m op n mm imm at') W W') := by
      rw [(load_plain m op n mm imm at' 2 (Or.inl ⟨hop, rfl⟩)).1, (load_plain m op n mm imm at' 2 (Or.inl ⟨hop, rfl⟩)).2]
      exact (load_any K g m gb bc s0 s1 s2 ta tc op n mm imm at' 2 V (h.next hb) (Or.inl rfl) hM ha0 ha1 hi0 hi1 hn0 hn1).mono fun _ _ ⟨h1, h2⟩ => ⟨h1, PP.after hb h2 h.kz⟩
    have ho1 : 23 ≤ op := by omega
    have ho2 : op ≤ 23 := by omega
    clear hV hb kV h hM hop
    generalize plainE m op n mm imm at' = EE at *
    generalize plainM m op n mm imm at' = MM at *
    go_enter Tryd.func35, Tryd.ntmps35
    go_upto_region 1 with fail
    rw [HV.out]
    clear HV
    go_wp2_with (first | (go_at_call 45; refine HC.out.mono ?_; rintro e W2 ⟨rfl, hp2⟩; have HP2 := Lib.hid hp2; clear hp2) | fail)
    go_ret
    exact ⟨rfl, HP2.out⟩
  · have HC : Hid (Calls Tryd.prog 45 #[.pointer (some ⟨g, 0, none⟩), .agg #[.int .i64 op, .int .i64 n, .int .i64 mm, .int .i64 imm], .int .i64 at', .int .i64 4] V fun e W' => e = .returned (.int .i64 (plainE m op n mm imm at')) ∧ PP K K g gb bc (.slice s0 s1 s2) (plainM m op n mm imm at') W W') := by
      rw [(load_plain m op n mm imm at' 4 (Or.inr ⟨hop, rfl⟩)).1, (load_plain m op n mm imm at' 4 (Or.inr ⟨hop, rfl⟩)).2]
      exact (load_any K g m gb bc s0 s1 s2 ta tc op n mm imm at' 4 V (h.next hb) (Or.inr rfl) hM ha0 ha1 hi0 hi1 hn0 hn1).mono fun _ _ ⟨h1, h2⟩ => ⟨h1, PP.after hb h2 h.kz⟩
    have ho1 : 24 ≤ op := by omega
    have ho2 : op ≤ 24 := by omega
    clear hV hb kV h hM hop
    generalize plainE m op n mm imm at' = EE at *
    generalize plainM m op n mm imm at' = MM at *
    go_enter Tryd.func35, Tryd.ntmps35
    go_upto_region 1 with fail
    rw [HV.out]
    clear HV
    go_wp2_with (first | (go_at_call 45; refine HC.out.mono ?_; rintro e W2 ⟨rfl, hp2⟩; have HP2 := Lib.hid hp2; clear hp2) | fail)
    go_ret
    exact ⟨rfl, HP2.out⟩

theorem do_any (K g : Nat) (m : Ma) (gb bc : Nat) (s0 : Option Addr) (s1 s2 : Nat) (ta : Option Addr) (tc : Nat) (op n mm imm at' : Int) (W : World) (h : MR K g m gb bc (.slice s0 s1 s2) ta tc W) (hM : MOk m) (hr : ∀ k, in32 (m.r k)) (hbc : m.by'.length ≤ bc) (ha0 : 0 ≤ at') (ha1 : at' ≤ 1000000000000) (hi0 : -10000 ≤ imm) (hi1 : imm ≤ 10000) (hn0 : 0 ≤ n) (hn1 : n ≤ 15) (hm0 : 0 ≤ mm) (hm1 : mm ≤ 15) (ho : op = 1 ∨ (3 ≤ op ∧ op ≤ 16) ∨ (23 ≤ op ∧ op ≤ 27)) :
    Calls Tryd.prog 35 #[.pointer (some ⟨g, 0, none⟩), .agg #[.int .i64 op, .int .i64 n, .int .i64 mm, .int .i64 imm], .int .i64 at'] W fun e W' => e = .returned (.int .i64 (plainE m op n mm imm at')) ∧ PP K K g gb bc (.slice s0 s1 s2) (plainM m op n mm imm at') W W' := by
  by_cases h1 : op ≤ 10
  · exact do_made K g m gb bc s0 s1 s2 ta tc op n mm imm at' W h hM hr ha0 ha1 hi0 hi1 hn0 hn1 hm0 hm1 (by omega)
  · obtain e | e | e | e | e | e | e | e | e | e : op = 11 ∨ op = 12 ∨ op = 13 ∨ op = 14 ∨ op = 15 ∨ op = 16 ∨ (op = 23 ∨ op = 24) ∨ op = 25 ∨ op = 26 ∨ op = 27 := by omega
    · exact do_h11 K g m gb bc s0 s1 s2 ta tc op n mm imm at' W h hM hr ha0 ha1 hi0 hi1 hn0 hn1 hm0 hm1 (by omega) e
    · exact do_h12 K g m gb bc s0 s1 s2 ta tc op n mm imm at' W h hM hr ha0 ha1 hi0 hi1 hn0 hn1 hm0 hm1 (by omega) e
    · exact do_h13 K g m gb bc s0 s1 s2 ta tc op n mm imm at' W h hM hr ha0 ha1 hi0 hi1 hn0 hn1 hm0 hm1 (by omega) e
    · exact do_h14 K g m gb bc s0 s1 s2 ta tc op n mm imm at' W h hM hr ha0 ha1 hi0 hi1 hn0 hn1 hm0 hm1 (by omega) e
    · exact do_h15 K g m gb bc s0 s1 s2 ta tc op n mm imm at' W h hM hr ha0 ha1 hi0 hi1 hn0 hn1 hm0 hm1 (by omega) e
    · exact do_h16 K g m gb bc s0 s1 s2 ta tc op n mm imm at' W h hM hr ha0 ha1 hi0 hi1 hn0 hn1 hm0 hm1 (by omega) e
    · exact do_load K g m gb bc s0 s1 s2 ta tc op n mm imm at' W h hM ha0 ha1 hi0 hi1 hn0 hn1 e
    · exact do_put K g m gb bc s0 s1 s2 ta tc op n mm imm at' W h hM hr ha0 ha1 hi0 hi1 hn0 hn1 hm0 hm1 e hbc
    · exact do_get K g m gb bc s0 s1 s2 ta tc op n mm imm at' W h hM hr ha0 ha1 hi0 hi1 hn0 hn1 hm0 hm1 e
    · exact do_told K g m gb bc s0 s1 s2 ta tc op n mm imm at' W h hM hr ha0 ha1 hi0 hi1 hn0 hn1 hm0 hm1 e

end Go.Proofs.YtabepbaldadmgaaDoor

namespace Go.Proofs.YtabepbaldadmgaaDoor
open Go.RowKit Isa

/-- Where an instruction leads that a machine stands at. -/
def goalV (m : Ma) (op n imm : Int) : Int := if op = 2 then m.pr else if op = 21 ∨ op = 22 then m.r n.toNat else toI op imm m.pc

set_option maxHeartbeats 4000000 in
theorem goal_any (K g : Nat) (m : Ma) (gb bc : Nat) (sv : Value) (ta : Option Addr) (tc : Nat) (op n mm imm : Int) (W : World) (h : MR K g m gb bc sv ta tc W) (hp0 : 0 ≤ m.pc) (hp1 : m.pc ≤ 2097152) (hi0 : -10000 ≤ imm) (hi1 : imm ≤ 10000) (hn0 : 0 ≤ n) (hn1 : n ≤ 15) (hop : op = 2 ∨ (17 ≤ op ∧ op ≤ 22)) :
    Calls Tryd.prog 43 #[.pointer (some ⟨g, 0, none⟩), .agg #[.int .i64 op, .int .i64 n, .int .i64 mm, .int .i64 imm]] W fun e W' => e = .returned (.int .i64 (goalV m op n imm)) ∧ Below W.heap.size W W' := by
  obtain ⟨V, hV⟩ : ∃ V, V = W.alloc (.cells #[.int .i64 op, .int .i64 n, .int .i64 mm, .int .i64 imm] 45) := ⟨_, rfl⟩
  have hb : Below W.heap.size W V := by rw [hV]; exact oalloc _ _
  have kV : V.heap[W.heap.size]? = some (.cells #[.int .i64 op, .int .i64 n, .int .i64 mm, .int .i64 imm] 45 (0, 0)) := by rw [hV]; exact blk_new _ _ _
  have c0 := cell_of_block (i := 0) kV rfl
  have c1 := cell_of_block (i := 1) kV rfl
  have c2 := cell_of_block (i := 2) kV rfl
  have c3 := cell_of_block (i := 3) kV rfl
  have hMV := h.next hb
  obtain ⟨_, e17, e18, _⟩ := hMV.cells
  have er := hMV.rn n.toNat (by omega)
  have hn2 : n < 16 := by omega
  have HV := Lib.hid hV.symm
  have HB := Lib.hid hb
  have HBq : Hid (∀ nq, Below W.heap.size W (V.drewN nq)) := fun nq => hb.trans (Go.Joins.below_draws _ V nq)
  have hto := toI_near op imm m.pc hp0 hi0 hi1
  have hT := to_any op n mm imm m.pc
  have HT : Hid (∀ X, Below V.heap.size V X → Calls Tryd.prog 57 #[.agg #[.int .i64 op, .int .i64 n, .int .i64 mm, .int .i64 imm], .int .i64 m.pc] X fun e w' => e = .returned (.tuple #[.int .i64 (toI op imm m.pc), .bool (toB op)]) ∧ Below X.heap.size X w') := fun X hX => hT X (hMV.next hX).la hp0 (by omega) hi0 hi1
  have HKV : Hid (∀ X, Below V.heap.size V X → X.cell? ⟨W.heap.size, 0, none⟩ = some (.int .i64 op) ∧ X.cell? ⟨W.heap.size, 1, none⟩ = some (.int .i64 n) ∧ X.cell? ⟨W.heap.size, 2, none⟩ = some (.int .i64 mm) ∧ X.cell? ⟨W.heap.size, 3, none⟩ = some (.int .i64 imm) ∧ X.cell? ⟨g, 17, none⟩ = some (.int .i64 m.pc) ∧ Below V.heap.size V X) := fun X hX => by
    have k := (hX.block _ (Array.getElem?_eq_some_iff.1 kV).1).trans kV
    exact ⟨cell_of_block (i := 0) k rfl, cell_of_block (i := 1) k rfl, cell_of_block (i := 2) k rfl, cell_of_block (i := 3) k rfl, (hMV.next hX).cells.2.1, hX⟩
  have HS : Hid (∀ X, Calls Tryd.prog 51 #[.int .i64 (toI op imm m.pc)] X fun e w' => e = .returned (.int .i64 (toI op imm m.pc)) ∧ X = w') := fun X => by
    have := sgn_any (toI op imm m.pc) X
    rw [w32_id (by omega) (by omega)] at this
    exact this
  by_cases h1 : op = 2
  · have HE : Hid (goalV m op n imm = m.pr) := by unfold Hid goalV; rw [if_pos h1]
    have ho1 : 2 ≤ op := by omega
    have ho2 : op ≤ 2 := by omega
    clear hV hb kV h hMV hT hop h1
    go_enter Tryd.func43, Tryd.ntmps43
    go_upto_region 1 with fail
    rw [HV.out]
    go_wp2
    go_ret
    exact ⟨by rw [HE.out]; rfl, HB.out⟩
  · by_cases h2 : op = 21 ∨ op = 22
    · have HE : Hid (goalV m op n imm = m.r n.toNat) := by unfold Hid goalV; rw [if_neg h1, if_pos h2]
      have ho1 : 21 ≤ op := by omega
      have ho2 : op ≤ 22 := by omega
      clear hV hb kV h hMV hT hop h1
      go_enter Tryd.func43, Tryd.ntmps43
      go_upto_region 1 with fail
      rw [HV.out]
      go_wp2_with fail
      all_goals
        go_quiet (fail)
        go_wp2
        go_ret
        exact ⟨by rw [HE.out]; rfl, HBq.out _⟩
    · have HE : Hid (goalV m op n imm = toI op imm m.pc) := by unfold Hid goalV; rw [if_neg h1, if_neg h2]
      have ho1 : 17 ≤ op := by omega
      have ho2 : op ≤ 20 := by omega
      clear hV hb kV h hMV hT hop h1 h2
      generalize toI op imm m.pc = to' at *
      generalize toB op = tb at *
      go_enter Tryd.func43, Tryd.ntmps43
      go_upto_region 1 with fail
      rw [HV.out]
      go_wp2_with fail
      go_region_held3 (fun w' => w'.cell? ⟨W.heap.size, 0, none⟩ = some (.int .i64 op) ∧ w'.cell? ⟨W.heap.size, 1, none⟩ = some (.int .i64 n) ∧ w'.cell? ⟨W.heap.size, 2, none⟩ = some (.int .i64 mm) ∧ w'.cell? ⟨W.heap.size, 3, none⟩ = some (.int .i64 imm) ∧ w'.cell? ⟨g, 17, none⟩ = some (.int .i64 m.pc) ∧ Below V.heap.size V w')
        (first | assumption | exact HKV.out _ (Below.refl _ _).drew | exact HKV.out _ HX1.out | exact HKV.out _ HX1.out.drew)
        (first | (go_at_call 57; refine (HT.out _ (Below.refl _ _).drew).mono ?_; rintro e X1 ⟨rfl, hb1⟩; have HX1 : Hid (Below V.heap.size V X1) := Lib.hid ((Below.refl V.heap.size V).drew.trans (hb1.mono (by simp))); clear hb1))
      go_wp2_with (first | (go_at_call 51; refine (HS.out _).mono ?_; rintro e w' ⟨rfl, rfl⟩) | fail)
      go_ret
      exact ⟨by rw [HE.out]; rfl, HB.out.trans (HX1.out.mono HB.out.size)⟩

/-- What comes of the instruction behind one that leads elsewhere: the error, the machine. -/
def betE (m : Ma) (a : Int) : Int := if fetchE m a ≠ 0 then fetchE m a else if leadsB (fV m a 0) = true ∨ fV m a 0 = 27 then 8 else plainE m (fV m a 0) (fV m a 1) (fV m a 2) (fV m a 3) a
def betM (m : Ma) (a : Int) : Ma := plainM m (fV m a 0) (fV m a 1) (fV m a 2) (fV m a 3) a

set_option maxHeartbeats 4000000 in
theorem between_any (K g : Nat) (m : Ma) (gb bc : Nat) (s0 : Option Addr) (s1 s2 : Nat) (ta : Option Addr) (tc : Nat) (a : Int) (W : World) (h : MR K g m gb bc (.slice s0 s1 s2) ta tc W) (hM : MOk m) (hr : ∀ k, in32 (m.r k)) (hbc : m.by'.length ≤ bc) (ha0 : 0 ≤ a) (ha1 : a ≤ 1000000000) :
    Calls Tryd.prog 44 #[.pointer (some ⟨g, 0, none⟩), .int .i64 a] W fun e W' => e = .returned (.int .i64 (betE m a)) ∧ Kept K g gb W W' ∧ (betE m a = 0 → ∃ ta' tc', MR K g (betM m a) gb bc (.slice s0 s1 s2) ta' tc' W') := by
  obtain ⟨_, _, _, c19, c20, c21, _, _⟩ := h.cells
  have HI := Lib.hid (instr_any m (some ⟨gb, 0, none⟩) bc (.slice s0 s1 s2) a W h.brd h.la hM.b0 hM.b1 (by have := hM.bl; omega) (by omega) (by omega))
  obtain ⟨b1, b2, b3, b4, b5, b6⟩ := fV_bd m a
  have hDo : ∀ X, Below W.heap.size W X → (fV m a 0 = 1 ∨ (3 ≤ fV m a 0 ∧ fV m a 0 ≤ 16) ∨ (23 ≤ fV m a 0 ∧ fV m a 0 ≤ 27)) → Calls Tryd.prog 35 #[.pointer (some ⟨g, 0, none⟩), .agg #[.int .i64 (fV m a 0), .int .i64 (fV m a 1), .int .i64 (fV m a 2), .int .i64 (fV m a 3)], .int .i64 a] X fun e W' => e = .returned (.int .i64 (plainE m (fV m a 0) (fV m a 1) (fV m a 2) (fV m a 3) a)) ∧ PP K K g gb bc (.slice s0 s1 s2) (betM m a) W W' := fun X hX ho =>
    (do_any K g m gb bc s0 s1 s2 ta tc _ _ _ _ a X (h.next hX) hM hr hbc ha0 (by omega) b5 b6 b1 b2 b3 b4 ho).mono fun _ _ ⟨h1, h2⟩ => ⟨h1, (h.kn hX).trans h2.1, h2.2⟩
  have HKN : Hid (∀ X, Below W.heap.size W X → Kept K g gb W X) := fun X hX => h.kn hX
  have HLE := Lib.hid oleads_any
  by_cases he : fetchE m a = 0
  · have hIn := fetch_in hM.b0 he
    by_cases hl : leadsB (fV m a 0) = true
    · have HE : Hid (betE m a = 8) := by unfold Hid betE; rw [if_neg (by simp [he]), if_pos (Or.inl hl)]
      rw [he] at HI
      have HL : Hid (∀ X, Calls Tryd.prog 33 #[.int .i64 (fV m a 0)] X fun e w' => e = .returned (.bool true) ∧ X = w') := fun X => by
        have := HLE.out (fV m a 0) X
        rw [hl] at this
        exact this
      clear h hM hr hDo HLE hl he
      generalize betE m a = EE at *
      generalize fV m a 0 = d0 at *
      generalize fV m a 1 = d1 at *
      generalize fV m a 2 = d2 at *
      generalize fV m a 3 = d3 at *
      go_enter Tryd.func44, Tryd.ntmps44
      go_wp2_with (first | (go_at_call 32; refine HI.out.mono ?_; rintro e W1 ⟨rfl, hb1⟩; have HB1 := Lib.hid (hb1.trans ((oalloc W1 (.cells #[.int .i64 d0, .int .i64 d1, .int .i64 d2, .int .i64 d3] 45)).mono hb1.size)); clear hb1) | (go_at_call 33; refine (HL.out _).mono ?_; rintro e w' ⟨rfl, rfl⟩) | fail)
      go_ret
      exact ⟨by rw [HE.out]; rfl, HKN.out _ HB1.out, fun h0 => absurd (HE.out.symm.trans h0) (by decide)⟩
    · have hl' : leadsB (fV m a 0) = false := by simpa using hl
      have HL : Hid (∀ X, Calls Tryd.prog 33 #[.int .i64 (fV m a 0)] X fun e w' => e = .returned (.bool false) ∧ X = w') := fun X => by
        have := HLE.out (fV m a 0) X
        rw [hl'] at this
        exact this
      by_cases h27 : fV m a 0 = 27
      · have HE : Hid (betE m a = 8) := by unfold Hid betE; rw [if_neg (by simp [he]), if_pos (Or.inr h27)]
        rw [he] at HI
        have ho1 : 27 ≤ fV m a 0 := by omega
        have ho2 : fV m a 0 ≤ 27 := by omega
        clear h hM hr hDo HLE hl he hl' h27 hIn
        generalize betE m a = EE at *
        generalize fV m a 0 = d0 at *
        generalize fV m a 1 = d1 at *
        generalize fV m a 2 = d2 at *
        generalize fV m a 3 = d3 at *
        go_enter Tryd.func44, Tryd.ntmps44
        go_wp2_with (first | (go_at_call 32; refine HI.out.mono ?_; rintro e W1 ⟨rfl, hb1⟩; have HB1 := Lib.hid (hb1.trans ((oalloc W1 (.cells #[.int .i64 d0, .int .i64 d1, .int .i64 d2, .int .i64 d3] 45)).mono hb1.size)); clear hb1) | (go_at_call 33; refine (HL.out _).mono ?_; rintro e w' ⟨rfl, rfl⟩) | fail)
        go_ret
        exact ⟨by rw [HE.out]; rfl, HKN.out _ HB1.out, fun h0 => absurd (HE.out.symm.trans h0) (by decide)⟩
      · have HE : Hid (betE m a = plainE m (fV m a 0) (fV m a 1) (fV m a 2) (fV m a 3) a) := by unfold Hid betE; rw [if_neg (by simp [he]), if_neg (by rintro (q | q) <;> contradiction)]
        have hop : fV m a 0 = 1 ∨ (3 ≤ fV m a 0 ∧ fV m a 0 ≤ 16) ∨ (23 ≤ fV m a 0 ∧ fV m a 0 ≤ 27) := by
          unfold leadsB at hl'
          simp at hl'
          omega
        have HD : Hid (∀ X, Below W.heap.size W X → Calls Tryd.prog 35 #[.pointer (some ⟨g, 0, none⟩), .agg #[.int .i64 (fV m a 0), .int .i64 (fV m a 1), .int .i64 (fV m a 2), .int .i64 (fV m a 3)], .int .i64 a] X fun e W' => e = .returned (.int .i64 (betE m a)) ∧ PP K K g gb bc (.slice s0 s1 s2) (betM m a) W W') := fun X hX => by
          rw [HE.out]
          exact hDo X hX hop
        rw [he] at HI
        have h27b : (fV m a 0 == 27) = false := by simpa using h27
        clear h hM hr hDo HLE hl he hl' h27 hIn hop HE
        generalize betE m a = EE at *
        generalize betM m a = MM at *
        generalize fV m a 0 = d0 at *
        generalize fV m a 1 = d1 at *
        generalize fV m a 2 = d2 at *
        generalize fV m a 3 = d3 at *
        go_enter Tryd.func44, Tryd.ntmps44
        go_wp2_with (first | (go_at_call 32; refine HI.out.mono ?_; rintro e W1 ⟨rfl, hb1⟩; have HB1 := Lib.hid (hb1.trans ((oalloc W1 (.cells #[.int .i64 d0, .int .i64 d1, .int .i64 d2, .int .i64 d3] 45)).mono hb1.size)); clear hb1) | (go_at_call 33; refine (HL.out _).mono ?_; rintro e w' ⟨rfl, rfl⟩) | (go_at_call 35; refine (HD.out _ HB1.out).mono ?_; rintro e W2 ⟨rfl, hp2⟩; have HP2 := Lib.hid hp2; clear hp2) | fail)
        go_ret
        exact ⟨rfl, HP2.out.1, fun _ => HP2.out.2⟩
  · have HE : Hid (betE m a = fetchE m a) := by unfold Hid betE; rw [if_pos he]
    have heb : (fetchE m a != 0) = true := by simpa using he
    have HN : Hid (fetchE m a ≠ 0) := he
    clear h hM hr hDo HLE he
    generalize betE m a = EE at *
    generalize fetchE m a = ee at *
    generalize fV m a 0 = d0 at *
    generalize fV m a 1 = d1 at *
    generalize fV m a 2 = d2 at *
    generalize fV m a 3 = d3 at *
    go_enter Tryd.func44, Tryd.ntmps44
    go_wp2_with (first | (go_at_call 32; refine HI.out.mono ?_; rintro e W1 ⟨rfl, hb1⟩; have HB1 := Lib.hid (hb1.trans ((oalloc W1 (.cells #[.int .i64 d0, .int .i64 d1, .int .i64 d2, .int .i64 d3] 45)).mono hb1.size)); clear hb1) | fail)
    go_ret
    exact ⟨by rw [HE.out]; rfl, HKN.out _ HB1.out, fun h0 => absurd (HE.out.symm.trans h0) HN.out⟩

end Go.Proofs.YtabepbaldadmgaaDoor
