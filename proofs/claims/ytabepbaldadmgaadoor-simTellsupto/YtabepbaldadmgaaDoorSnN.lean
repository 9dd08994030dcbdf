/- The program's own sim: lead. -/
import Derived.Test.YtabepbaldadmgaaDoorPut25
namespace Go.Proofs.YtabepbaldadmgaaDoor
open Go.RowKit Isa

/-- The machine that the instruction behind is done in. -/
def leadP (m : Ma) (op : Int) : Ma := if op = 20 ∨ op = 22 then { m with pr := m.pc + 4 } else m
def leadE (m : Ma) (op : Int) : Int := if op = 17 ∨ op = 18 then 0 else betE (leadP m op) (m.pc + 2)
def leadM (m : Ma) (op n imm : Int) : Ma := if op = 17 ∨ op = 18 then { m with pc := if m.t = decide (op = 17) then toI op imm m.pc else m.pc + 2 } else { betM (leadP m op) (m.pc + 2) with pc := goalV m op n imm }
def LdPost (K g gb bc : Nat) (sv : Value) (E : Int) (M : Ma) (W : World) (e : Ending) (W' : World) : Prop := e = .returned (.int .i64 E) ∧ Kept K g gb W W' ∧ (E = 0 → ∃ ta' tc', MR K g M gb bc sv ta' tc' W')

set_option maxHeartbeats 4000000 in
theorem lead_b (K g : Nat) (m : Ma) (gb bc : Nat) (s0 : Option Addr) (s1 s2 : Nat) (ta : Option Addr) (tc : Nat) (op n mm imm : Int) (W : World) (h : MR K g m gb bc (.slice s0 s1 s2) ta tc W) (hp0 : 0 ≤ m.pc) (hp1 : m.pc ≤ 2097152) (hi0 : -10000 ≤ imm) (hi1 : imm ≤ 10000) (hn0 : 0 ≤ n) (hn1 : n ≤ 15) (hop : op = 17 ∨ op = 18) :
    Calls Tryd.prog 34 #[.pointer (some ⟨g, 0, none⟩), .agg #[.int .i64 op, .int .i64 n, .int .i64 mm, .int .i64 imm]] W (LdPost K g gb bc (.slice s0 s1 s2) (leadE m op) (leadM m op n imm) W) := by
  have eE : leadE m op = 0 := by unfold leadE; rw [if_pos hop]
  have eM : leadM m op n imm = { m with pc := if m.t = decide (op = 17) then toI op imm m.pc else m.pc + 2 } := by unfold leadM; rw [if_pos hop]
  have eG : goalV m op n imm = toI op imm m.pc := by unfold goalV; rw [if_neg (by omega), if_neg (by omega)]
  rw [eE, eM]
  have HG : Hid (∀ X, Below W.heap.size W X → Calls Tryd.prog 43 #[.pointer (some ⟨g, 0, none⟩), .agg #[.int .i64 op, .int .i64 n, .int .i64 mm, .int .i64 imm]] X fun e W' => e = .returned (.int .i64 (toI op imm m.pc)) ∧ Below X.heap.size X W') := fun X hX => by
    rw [← eG]
    exact goal_any K g m gb bc (.slice s0 s1 s2) ta tc op n mm imm X (h.next hX) hp0 hp1 hi0 hi1 hn0 hn1 (by omega)
  have HBH : Hid (∀ X, Calls Tryd.prog 36 #[.int .i64 m.pc, .int .i64 2] X fun e w' => e = .returned (.int .i64 (m.pc + 2)) ∧ X = w') := fun X => behind_any m.pc 2 X (by omega) (by omega)
  have HF : Hid (∀ (X : World) (v : Int), Below W.heap.size W X → LdPost K g gb bc (.slice s0 s1 s2) 0 { m with pc := v } W (.returned (.int .i64 0)) (X.setCell ⟨g, 17, none⟩ (.int .i64 v))) := fun X v hX => ⟨rfl, h.keepSet hX 17 _, fun _ => ⟨ta, tc, (h.next hX).setpc v⟩⟩
  have HC : Hid (∀ X, Below W.heap.size W X → X.cell? ⟨g, 16, none⟩ = some (.bool m.t) ∧ X.cell? ⟨g, 17, none⟩ = some (.int .i64 m.pc) ∧ X.frozen? ⟨g, 17, none⟩ = false) := fun X hX => ⟨(h.next hX).cells.1, (h.next hX).cells.2.1, (h.next hX).fz 17⟩
  have HK : Hid (∀ X : World, Below (W.alloc (.cells #[.int .i64 op, .int .i64 n, .int .i64 mm, .int .i64 imm] 45)).heap.size (W.alloc (.cells #[.int .i64 op, .int .i64 n, .int .i64 mm, .int .i64 imm] 45)) X → X.cell? ⟨W.heap.size, 0, none⟩ = some (.int .i64 op) ∧ Below W.heap.size W X) := fun X hX => by
    have k := (hX.block _ (by simp)).trans (blk_new W #[.int .i64 op, .int .i64 n, .int .i64 mm, .int .i64 imm] 45)
    exact ⟨cell_of_block (i := 0) k rfl, (oalloc _ _).trans (hX.mono (by simp))⟩
  obtain ⟨pv, hpv⟩ : ∃ x, x = (if m.t = decide (op = 17) then toI op imm m.pc else m.pc + 2) := ⟨_, rfl⟩
  rw [← hpv]
  obtain ⟨tt, htt⟩ : ∃ tt, tt = m.t := ⟨_, rfl⟩
  rw [← htt] at HC hpv
  clear h htt eE eM eG
  generalize toI op imm m.pc = to' at *
  rcases hop with hop | hop
  · rw [show decide (op = 17) = true by simpa using hop] at hpv
    have ho1 : 17 ≤ op := by omega
    have ho2 : op ≤ 17 := by omega
    clear hop
    cases tt
    · have HPV : Hid (pv = m.pc + 2) := hpv
      clear hpv
      go_enter Tryd.func34, Tryd.ntmps34
      go_wp2_with (first | (go_at_call 43; refine (HG.out _ (oalloc _ _)).mono ?_; rintro e W1 ⟨rfl, hb1⟩; obtain ⟨y0, hbW⟩ := HK.out W1 hb1; have HB1 := Lib.hid hbW; obtain ⟨z16, z17, zf⟩ := HC.out W1 hbW; clear hb1 hbW) | fail)
      go_quiet (fail)
      go_wp2_with (first | (go_at_call 36; refine (HBH.out _).mono ?_; rintro e w' ⟨rfl, rfl⟩) | fail)
      go_ret
      rw [HPV.out]
      exact HF.out _ _ (HB1.out.trans (Go.Joins.below_draws _ W1 nq))
    · have HPV : Hid (pv = to') := hpv
      clear hpv
      go_enter Tryd.func34, Tryd.ntmps34
      go_wp2_with (first | (go_at_call 43; refine (HG.out _ (oalloc _ _)).mono ?_; rintro e W1 ⟨rfl, hb1⟩; obtain ⟨y0, hbW⟩ := HK.out W1 hb1; have HB1 := Lib.hid hbW; obtain ⟨z16, z17, zf⟩ := HC.out W1 hbW; clear hb1 hbW) | fail)
      go_quiet (fail)
      go_wp2_with (first | (go_at_call 36; refine (HBH.out _).mono ?_; rintro e w' ⟨rfl, rfl⟩) | fail)
      go_ret
      rw [HPV.out]
      exact HF.out _ _ (HB1.out.trans (Go.Joins.below_draws _ W1 nq))
  · rw [show decide (op = 17) = false by simp; omega] at hpv
    have ho1 : 18 ≤ op := by omega
    have ho2 : op ≤ 18 := by omega
    clear hop
    cases tt
    · have HPV : Hid (pv = to') := hpv
      clear hpv
      go_enter Tryd.func34, Tryd.ntmps34
      go_wp2_with (first | (go_at_call 43; refine (HG.out _ (oalloc _ _)).mono ?_; rintro e W1 ⟨rfl, hb1⟩; obtain ⟨y0, hbW⟩ := HK.out W1 hb1; have HB1 := Lib.hid hbW; obtain ⟨z16, z17, zf⟩ := HC.out W1 hbW; clear hb1 hbW) | fail)
      go_quiet (fail)
      go_wp2_with (first | (go_at_call 36; refine (HBH.out _).mono ?_; rintro e w' ⟨rfl, rfl⟩) | fail)
      go_ret
      rw [HPV.out]
      exact HF.out _ _ (HB1.out.trans (Go.Joins.below_draws _ W1 nq))
    · have HPV : Hid (pv = m.pc + 2) := hpv
      clear hpv
      go_enter Tryd.func34, Tryd.ntmps34
      go_wp2_with (first | (go_at_call 43; refine (HG.out _ (oalloc _ _)).mono ?_; rintro e W1 ⟨rfl, hb1⟩; obtain ⟨y0, hbW⟩ := HK.out W1 hb1; have HB1 := Lib.hid hbW; obtain ⟨z16, z17, zf⟩ := HC.out W1 hbW; clear hb1 hbW) | fail)
      go_quiet (fail)
      go_wp2_with (first | (go_at_call 36; refine (HBH.out _).mono ?_; rintro e w' ⟨rfl, rfl⟩) | fail)
      go_ret
      rw [HPV.out]
      exact HF.out _ _ (HB1.out.trans (Go.Joins.below_draws _ W1 nq))

set_option maxHeartbeats 4000000 in
theorem lead_n (K g : Nat) (m : Ma) (gb bc : Nat) (s0 : Option Addr) (s1 s2 : Nat) (ta : Option Addr) (tc : Nat) (op n mm imm : Int) (W : World) (h : MR K g m gb bc (.slice s0 s1 s2) ta tc W) (hM : MOk m) (hr : ∀ k, in32 (m.r k)) (hbc : m.by'.length ≤ bc) (hp0 : 0 ≤ m.pc) (hp1 : m.pc ≤ 2097152) (hi0 : -10000 ≤ imm) (hi1 : imm ≤ 10000) (hn0 : 0 ≤ n) (hn1 : n ≤ 15) (hop : op = 2 ∨ op = 19 ∨ op = 21) :
    Calls Tryd.prog 34 #[.pointer (some ⟨g, 0, none⟩), .agg #[.int .i64 op, .int .i64 n, .int .i64 mm, .int .i64 imm]] W (LdPost K g gb bc (.slice s0 s1 s2) (leadE m op) (leadM m op n imm) W) := by
  have hP : leadP m op = m := by unfold leadP; rw [if_neg (by omega)]
  have eE : leadE m op = betE m (m.pc + 2) := by unfold leadE; rw [if_neg (by omega), hP]
  have eM : leadM m op n imm = { betM m (m.pc + 2) with pc := goalV m op n imm } := by unfold leadM; rw [if_neg (by omega), hP]
  rw [eE, eM]
  have HG : Hid (∀ X, Below W.heap.size W X → Calls Tryd.prog 43 #[.pointer (some ⟨g, 0, none⟩), .agg #[.int .i64 op, .int .i64 n, .int .i64 mm, .int .i64 imm]] X fun e W' => e = .returned (.int .i64 (goalV m op n imm)) ∧ Below X.heap.size X W') := fun X hX => goal_any K g m gb bc (.slice s0 s1 s2) ta tc op n mm imm X (h.next hX) hp0 hp1 hi0 hi1 hn0 hn1 (by omega)
  have HBH : Hid (∀ X, Calls Tryd.prog 36 #[.int .i64 m.pc, .int .i64 2] X fun e w' => e = .returned (.int .i64 (m.pc + 2)) ∧ X = w') := fun X => behind_any m.pc 2 X (by omega) (by omega)
  have HBT : Hid (∀ X, Below W.heap.size W X → Calls Tryd.prog 44 #[.pointer (some ⟨g, 0, none⟩), .int .i64 (m.pc + 2)] X fun e W' => e = .returned (.int .i64 (betE m (m.pc + 2))) ∧ Kept K g gb W W' ∧ (betE m (m.pc + 2) = 0 → ∃ ta' tc', MR K g (betM m (m.pc + 2)) gb bc (.slice s0 s1 s2) ta' tc' W')) := fun X hX =>
    (between_any K g m gb bc s0 s1 s2 ta tc (m.pc + 2) X (h.next hX) hM hr hbc (by omega) (by omega)).mono fun _ _ ⟨h1, h2, h3⟩ => ⟨h1, (h.kn hX).trans h2, h3⟩
  have HC : Hid (∀ X, Below W.heap.size W X → X.cell? ⟨g, 17, none⟩ = some (.int .i64 m.pc) ∧ X.cell? ⟨g, 18, none⟩ = some (.int .i64 m.pr) ∧ X.frozen? ⟨g, 18, none⟩ = false) := fun X hX => ⟨(h.next hX).cells.2.1, (h.next hX).cells.2.2.1, (h.next hX).fz 18⟩
  have HK : Hid (∀ X : World, Below (W.alloc (.cells #[.int .i64 op, .int .i64 n, .int .i64 mm, .int .i64 imm] 45)).heap.size (W.alloc (.cells #[.int .i64 op, .int .i64 n, .int .i64 mm, .int .i64 imm] 45)) X → X.cell? ⟨W.heap.size, 0, none⟩ = some (.int .i64 op) ∧ Below W.heap.size W X) := fun X hX => by
    have k := (hX.block _ (by simp)).trans (blk_new W #[.int .i64 op, .int .i64 n, .int .i64 mm, .int .i64 imm] 45)
    exact ⟨cell_of_block (i := 0) k rfl, (oalloc _ _).trans (hX.mono (by simp))⟩
  obtain ⟨EE, hEE⟩ : ∃ x, x = betE m (m.pc + 2) := ⟨_, rfl⟩
  obtain ⟨MM, hMM⟩ : ∃ x, x = betM m (m.pc + 2) := ⟨_, rfl⟩
  rw [← hEE, ← hMM] at HBT
  rw [← hEE, ← hMM]
  have q17 : (op == 17) = false := by simp; omega
  have q18 : (op == 18) = false := by simp; omega
  have q20 : (op == 20) = false := by simp; omega
  have q22 : (op == 22) = false := by simp; omega
  clear h hM hr hEE hMM hP eE eM hop
  generalize goalV m op n imm = to' at *
  by_cases h0 : EE = 0
  · subst h0
    go_enter Tryd.func34, Tryd.ntmps34
    go_wp2_with (first | (go_at_call 43; refine (HG.out _ (oalloc _ _)).mono ?_; rintro e W1 ⟨rfl, hb1⟩; obtain ⟨y0, hbW⟩ := HK.out W1 hb1; have HB1 := Lib.hid hbW; obtain ⟨z17, z18, zf⟩ := HC.out W1 hbW; clear hb1 hbW) | (go_at_call 36; refine (HBH.out _).mono ?_; rintro e w' ⟨rfl, rfl⟩) | (go_at_call 44; refine (HBT.out _ HB1.out).mono ?_; rintro e W2 ⟨rfl, hk2, hm2⟩; obtain ⟨ta2, tc2, hm3⟩ := hm2 (by first | rfl | trivial); have HK2 := Lib.hid hk2; have HM2 := Lib.hid hm3; have x17 := hm3.cells.2.1; have xf := hm3.fz 17; clear hk2 hm2 hm3) | fail)
    all_goals
      go_ret
      exact ⟨rfl, HK2.out.trans (Kept.cell ⟨g, 17, none⟩ _), fun _ => ⟨_, _, HM2.out.setpc _⟩⟩
  · have h0b : (EE != 0) = true := by simpa using h0
    have HN := Lib.hid h0
    clear h0
    go_enter Tryd.func34, Tryd.ntmps34
    go_wp2_with (first | (go_at_call 43; refine (HG.out _ (oalloc _ _)).mono ?_; rintro e W1 ⟨rfl, hb1⟩; obtain ⟨y0, hbW⟩ := HK.out W1 hb1; have HB1 := Lib.hid hbW; obtain ⟨z17, z18, zf⟩ := HC.out W1 hbW; clear hb1 hbW) | (go_at_call 36; refine (HBH.out _).mono ?_; rintro e w' ⟨rfl, rfl⟩) | (go_at_call 44; refine (HBT.out _ HB1.out).mono ?_; rintro e W2 ⟨rfl, hk2, hm2⟩; have HK2 := Lib.hid hk2; clear hk2 hm2) | fail)
    all_goals
      go_ret
      exact ⟨rfl, HK2.out, fun h1 => absurd h1 HN.out⟩

set_option maxHeartbeats 4000000 in
theorem lead_p (K g : Nat) (m : Ma) (gb bc : Nat) (s0 : Option Addr) (s1 s2 : Nat) (ta : Option Addr) (tc : Nat) (op n mm imm : Int) (W : World) (h : MR K g m gb bc (.slice s0 s1 s2) ta tc W) (hM : MOk m) (hr : ∀ k, in32 (m.r k)) (hbc : m.by'.length ≤ bc) (hp0 : 0 ≤ m.pc) (hp1 : m.pc ≤ 2097152) (hi0 : -10000 ≤ imm) (hi1 : imm ≤ 10000) (hn0 : 0 ≤ n) (hn1 : n ≤ 15) (hop : op = 20 ∨ op = 22) :
    Calls Tryd.prog 34 #[.pointer (some ⟨g, 0, none⟩), .agg #[.int .i64 op, .int .i64 n, .int .i64 mm, .int .i64 imm]] W (LdPost K g gb bc (.slice s0 s1 s2) (leadE m op) (leadM m op n imm) W) := by
  have hP : leadP m op = ({ m with pr := m.pc + 4 } : Ma) := by unfold leadP; rw [if_pos hop]
  have eE : leadE m op = betE ({ m with pr := m.pc + 4 } : Ma) (m.pc + 2) := by unfold leadE; rw [if_neg (by omega), hP]
  have eM : leadM m op n imm = { betM ({ m with pr := m.pc + 4 } : Ma) (m.pc + 2) with pc := goalV m op n imm } := by unfold leadM; rw [if_neg (by omega), hP]
  rw [eE, eM]
  have HG : Hid (∀ X, Below W.heap.size W X → Calls Tryd.prog 43 #[.pointer (some ⟨g, 0, none⟩), .agg #[.int .i64 op, .int .i64 n, .int .i64 mm, .int .i64 imm]] X fun e W' => e = .returned (.int .i64 (goalV m op n imm)) ∧ Below X.heap.size X W') := fun X hX => goal_any K g m gb bc (.slice s0 s1 s2) ta tc op n mm imm X (h.next hX) hp0 hp1 hi0 hi1 hn0 hn1 (by omega)
  have HBH : Hid (∀ X, Calls Tryd.prog 36 #[.int .i64 m.pc, .int .i64 2] X fun e w' => e = .returned (.int .i64 (m.pc + 2)) ∧ X = w') := fun X => behind_any m.pc 2 X (by omega) (by omega)
  have HBT : Hid (∀ X, Below W.heap.size W X → Calls Tryd.prog 44 #[.pointer (some ⟨g, 0, none⟩), .int .i64 (m.pc + 2)] (X.setCell ⟨g, 18, none⟩ (.int .i64 (m.pc + 4))) fun e W' => e = .returned (.int .i64 (betE ({ m with pr := m.pc + 4 } : Ma) (m.pc + 2))) ∧ Kept K g gb W W' ∧ (betE ({ m with pr := m.pc + 4 } : Ma) (m.pc + 2) = 0 → ∃ ta' tc', MR K g (betM ({ m with pr := m.pc + 4 } : Ma) (m.pc + 2)) gb bc (.slice s0 s1 s2) ta' tc' W')) := fun X hX =>
    (between_any K g ({ m with pr := m.pc + 4 } : Ma) gb bc s0 s1 s2 ta tc (m.pc + 2) _ ((h.next hX).setpr (m.pc + 4)) ⟨hM.b0, hM.b1, hM.bl, hM.tl⟩ hr hbc (by omega) (by omega)).mono fun _ _ ⟨h1, h2, h3⟩ => ⟨h1, (h.keepSet hX 18 _).trans h2, h3⟩
  have HB4 : Hid (∀ X, Calls Tryd.prog 36 #[.int .i64 m.pc, .int .i64 4] X fun e w' => e = .returned (.int .i64 (m.pc + 4)) ∧ X = w') := fun X => behind_any m.pc 4 X (by omega) (by omega)
  have HC : Hid (∀ X, Below W.heap.size W X → X.cell? ⟨g, 17, none⟩ = some (.int .i64 m.pc) ∧ X.cell? ⟨g, 18, none⟩ = some (.int .i64 m.pr) ∧ X.frozen? ⟨g, 18, none⟩ = false) := fun X hX => ⟨(h.next hX).cells.2.1, (h.next hX).cells.2.2.1, (h.next hX).fz 18⟩
  have HK : Hid (∀ X : World, Below (W.alloc (.cells #[.int .i64 op, .int .i64 n, .int .i64 mm, .int .i64 imm] 45)).heap.size (W.alloc (.cells #[.int .i64 op, .int .i64 n, .int .i64 mm, .int .i64 imm] 45)) X → X.cell? ⟨W.heap.size, 0, none⟩ = some (.int .i64 op) ∧ Below W.heap.size W X) := fun X hX => by
    have k := (hX.block _ (by simp)).trans (blk_new W #[.int .i64 op, .int .i64 n, .int .i64 mm, .int .i64 imm] 45)
    exact ⟨cell_of_block (i := 0) k rfl, (oalloc _ _).trans (hX.mono (by simp))⟩
  obtain ⟨EE, hEE⟩ : ∃ x, x = betE ({ m with pr := m.pc + 4 } : Ma) (m.pc + 2) := ⟨_, rfl⟩
  obtain ⟨MM, hMM⟩ : ∃ x, x = betM ({ m with pr := m.pc + 4 } : Ma) (m.pc + 2) := ⟨_, rfl⟩
  rw [← hEE, ← hMM] at HBT
  rw [← hEE, ← hMM]
  have ho1 : 20 ≤ op := by omega
  have ho2 : op ≤ 22 := by omega
  have ho3 : op ≠ 21 := by omega
  clear h hM hr hEE hMM hP eE eM hop
  generalize goalV m op n imm = to' at *
  by_cases h0 : EE = 0
  · subst h0
    go_enter Tryd.func34, Tryd.ntmps34
    go_wp2_with (first | (go_at_call 43; refine (HG.out _ (oalloc _ _)).mono ?_; rintro e W1 ⟨rfl, hb1⟩; obtain ⟨y0, hbW⟩ := HK.out W1 hb1; have HB1 := Lib.hid hbW; obtain ⟨z17, z18, zf⟩ := HC.out W1 hbW; clear hb1 hbW) | (go_at_call 36; refine (HBH.out _).mono ?_; rintro e w' ⟨rfl, rfl⟩) | (go_at_call 36; refine (HB4.out _).mono ?_; rintro e w' ⟨rfl, rfl⟩) | (go_at_call 44; refine (HBT.out _ HB1.out).mono ?_; rintro e W2 ⟨rfl, hk2, hm2⟩; obtain ⟨ta2, tc2, hm3⟩ := hm2 (by first | rfl | trivial); have HK2 := Lib.hid hk2; have HM2 := Lib.hid hm3; have x17 := hm3.cells.2.1; have xf := hm3.fz 17; clear hk2 hm2 hm3) | fail)
    all_goals
      go_ret
      exact ⟨rfl, HK2.out.trans (Kept.cell ⟨g, 17, none⟩ _), fun _ => ⟨_, _, HM2.out.setpc _⟩⟩
  · have h0b : (EE != 0) = true := by simpa using h0
    have HN := Lib.hid h0
    clear h0
    go_enter Tryd.func34, Tryd.ntmps34
    go_wp2_with (first | (go_at_call 43; refine (HG.out _ (oalloc _ _)).mono ?_; rintro e W1 ⟨rfl, hb1⟩; obtain ⟨y0, hbW⟩ := HK.out W1 hb1; have HB1 := Lib.hid hbW; obtain ⟨z17, z18, zf⟩ := HC.out W1 hbW; clear hb1 hbW) | (go_at_call 36; refine (HBH.out _).mono ?_; rintro e w' ⟨rfl, rfl⟩) | (go_at_call 36; refine (HB4.out _).mono ?_; rintro e w' ⟨rfl, rfl⟩) | (go_at_call 44; refine (HBT.out _ HB1.out).mono ?_; rintro e W2 ⟨rfl, hk2, hm2⟩; have HK2 := Lib.hid hk2; clear hk2 hm2) | fail)
    all_goals
      go_ret
      exact ⟨rfl, HK2.out, fun h1 => absurd h1 HN.out⟩

theorem lead_any (K g : Nat) (m : Ma) (gb bc : Nat) (s0 : Option Addr) (s1 s2 : Nat) (ta : Option Addr) (tc : Nat) (op n mm imm : Int) (W : World) (h : MR K g m gb bc (.slice s0 s1 s2) ta tc W) (hM : MOk m) (hr : ∀ k, in32 (m.r k)) (hbc : m.by'.length ≤ bc) (hp0 : 0 ≤ m.pc) (hp1 : m.pc ≤ 2097152) (hi0 : -10000 ≤ imm) (hi1 : imm ≤ 10000) (hn0 : 0 ≤ n) (hn1 : n ≤ 15) (hop : op = 2 ∨ (17 ≤ op ∧ op ≤ 22)) :
    Calls Tryd.prog 34 #[.pointer (some ⟨g, 0, none⟩), .agg #[.int .i64 op, .int .i64 n, .int .i64 mm, .int .i64 imm]] W (LdPost K g gb bc (.slice s0 s1 s2) (leadE m op) (leadM m op n imm) W) := by
  by_cases h1 : op = 17 ∨ op = 18
  · exact lead_b K g m gb bc s0 s1 s2 ta tc op n mm imm W h hp0 hp1 hi0 hi1 hn0 hn1 h1
  · by_cases h2 : op = 20 ∨ op = 22
    · exact lead_p K g m gb bc s0 s1 s2 ta tc op n mm imm W h hM hr hbc hp0 hp1 hi0 hi1 hn0 hn1 h2
    · exact lead_n K g m gb bc s0 s1 s2 ta tc op n mm imm W h hM hr hbc hp0 hp1 hi0 hi1 hn0 hn1 (by omega)

end Go.Proofs.YtabepbaldadmgaaDoor
