/- The program's own sim: the instruction at a place; how a machine lies that is written to. What a step of a machine is: the mathematics. What stays while a machine runs: the mathematics. -/
import Derived.Test.YtabepbaldadmgaaDoorPut11
import Derived.Test.YtabepbaldadmgaaDoorPut16
namespace Go.Proofs.YtabepbaldadmgaaDoor
open Go.RowKit Isa


set_option maxHeartbeats 2000000 in
theorem instr_any (m : Ma) (ba : Option Addr) (bc : Nat) (sv : Value) (a : Int) (w : World) (hR : BRd w ba m.by') (hL : Laid w) (hb0 : 0 ≤ m.base) (hb1 : m.base ≤ 1048576) (hl : m.by'.length ≤ 140737488355328) (ha0 : -4611686018427387904 ≤ a) (ha1 : a ≤ 4611686018427387904) :
    Calls Tryd.prog 32 #[.agg #[.int .i64 m.base, .slice ba m.by'.length bc, sv], .int .i64 a] w fun e w' => e = .returned (.tuple #[.agg #[.int .i64 (fV m a 0), .int .i64 (fV m a 1), .int .i64 (fV m a 2), .int .i64 (fV m a 3)], .int .i64 (fetchE m a)]) ∧ Below w.heap.size w w' := by
  obtain ⟨V, hV⟩ : ∃ V, V = (w.alloc (.cells #[.int .i64 m.base, .slice ba m.by'.length bc, sv] 26)).alloc (.cells #[.int .i64 0, .int .i64 0, .int .i64 0, .int .i64 0] 45) := ⟨_, rfl⟩
  have hV0 : Below w.heap.size w V := by rw [hV]; exact (oalloc _ _).trans ((oalloc _ _).mono (by simp))
  have hV1 : V.heap[w.heap.size]? = some (.cells #[.int .i64 m.base, .slice ba m.by'.length bc, sv] 26 (0, 0)) := by rw [hV, (oalloc _ _).block _ (by simp)]; exact blk_new _ _ _
  have hV2 : V.heap[w.heap.size + 1]? = some (.cells #[.int .i64 0, .int .i64 0, .int .i64 0, .int .i64 0] 45 (0, 0)) := by
    rw [hV]
    have := blk_new (w.alloc (.cells #[.int .i64 m.base, .slice ba m.by'.length bc, sv] 26)) #[.int .i64 0, .int .i64 0, .int .i64 0, .int .i64 0] 45
    simpa using this
  have HH := Lib.hid (there_any m ba bc sv a 2 V (Or.inl rfl) hb0 hb1 hl ha0 ha1)
  have c0 := cell_of_block (i := 0) hV1 rfl
  have c1 := cell_of_block (i := 1) hV1 rfl
  have c2 := cell_of_block (i := 2) hV1 rfl
  have HV := Lib.hid hV.symm
  clear hV
  have HV0 := Lib.hid hV0
  have HV1 := Lib.hid hV1
  have HV2 := Lib.hid hV2
  have hlt1 := (Array.getElem?_eq_some_iff.1 hV1).1
  have hlt2 := (Array.getElem?_eq_some_iff.1 hV2).1
  clear hV0 hV1 hV2
  by_cases hh : hasB m a 2 = true
  · have e0 : fV m a 0 = dV (wordS m a) 0 := by unfold fV; rw [if_pos hh]
    have e1 : fV m a 1 = dV (wordS m a) 1 := by unfold fV; rw [if_pos hh]
    have e2 : fV m a 2 = dV (wordS m a) 2 := by unfold fV; rw [if_pos hh]
    have e3 : fV m a 3 = dV (wordS m a) 3 := by unfold fV; rw [if_pos hh]
    have e4 : fetchE m a = decE (wordS m a) := by unfold fetchE; rw [if_pos hh]
    rw [e0, e1, e2, e3, e4]
    obtain ⟨q1, q2, q3⟩ := hasB_in hh
    have HG : Hid (∀ W, Below w.heap.size w W → Calls Tryd.prog 42 #[.slice ba m.by'.length bc, .int .i64 (a - m.base), .int .i64 2] W fun e w' => e = .returned (.int .i64 (wordS m a)) ∧ W = w') := fun W hb => (get_any ba m.by'.length bc (bsOf m.by') (a - m.base) 2 W (bsOf_byte _) (by unfold maxLen; omega) (fun h => by
      obtain ⟨b, off, e, _, hc⟩ := (hR.next hb) h
      exact ⟨b, off, e, hc⟩) (by omega) (by omega) (by omega) (by omega)).mono fun _ _ ⟨h1, h2⟩ => ⟨h1, h2.symm⟩
    have HD : Hid (∀ W, Below w.heap.size w W → Calls Tryd.prog 41 #[.int .i64 (wordS m a)] W fun e w' => e = .returned (.tuple #[.agg #[.int .i64 (dV (wordS m a) 0), .int .i64 (dV (wordS m a) 1), .int .i64 (dV (wordS m a) 2), .int .i64 (dV (wordS m a) 3)], .int .i64 (decE (wordS m a))]) ∧ Below W.heap.size W w') := fun W hb => by
      have := decode_any (wordS m a) W (hL.below hb hL.sz)
      rw [(dV_all (wordS m a)).1] at this
      exact this
    rw [hh] at HH
    clear hh e0 e1 e2 e3 e4 hR hL q1 q2 q3
    generalize wordS m a = x at *
    generalize decE x = ee at *
    generalize dV x 0 = d0 at *
    generalize dV x 1 = d1 at *
    generalize dV x 2 = d2 at *
    generalize dV x 3 = d3 at *
    go_enter Tryd.func32, Tryd.ntmps32
    go_upto_region 1 with fail
    rw [HV.out]
    go_wp2_with (first | (go_at_call 40; refine HH.out.mono ?_; rintro e W1 ⟨rfl, hb1⟩; have k1 := (hb1.block _ hlt1).trans HV1.out; have K2 := Lib.hid ((hb1.block _ hlt2).trans HV2.out); have c20 : W1.cell? ⟨w.heap.size, 1, none⟩ = some (.slice ba m.by'.length bc) := cell_of_block (i := 1) k1 rfl; have HB1 := Lib.hid (HV0.out.trans (hb1.mono HV0.out.size)); clear hb1 k1) | (go_at_call 42; refine (HG.out _ HB1.out).mono ?_; rintro e w' ⟨rfl, rfl⟩) | (go_at_call 41; refine (HD.out _ HB1.out).mono ?_; rintro e W2 ⟨rfl, hb2⟩; have kk := (hb2.block _ (Array.getElem?_eq_some_iff.1 K2.out).1).trans K2.out; have HB2 := Lib.hid (HB1.out.trans (hb2.mono HB1.out.size)); have z0 := blk_froz (i := 0) kk; have z1 := blk_froz (i := 1) kk; have z2 := blk_froz (i := 2) kk; have z3 := blk_froz (i := 3) kk; have y0 : W2.cell? ⟨w.heap.size + 1, 0, none⟩ = some (.int .i64 0) := cell_of_block (i := 0) kk rfl; have y1 : W2.cell? ⟨w.heap.size + 1, 1, none⟩ = some (.int .i64 0) := cell_of_block (i := 1) kk rfl; have y2 : W2.cell? ⟨w.heap.size + 1, 2, none⟩ = some (.int .i64 0) := cell_of_block (i := 2) kk rfl; have y3 : W2.cell? ⟨w.heap.size + 1, 3, none⟩ = some (.int .i64 0) := cell_of_block (i := 3) kk rfl; have hlt := (Array.getElem?_eq_some_iff.1 kk).1; clear hb2 kk) | fail)
    refine bodyPost_ret (v := .tuple #[.agg #[.int .i64 d0, .int .i64 d1, .int .i64 d2, .int .i64 d3], .int .i64 ee]) (by simp [results, Tryd.results32, go_sem, y0, y1, y2, y3]) rfl ⟨rfl, four HB2.out (Nat.le_succ _) _ _ _ _⟩
  · have hh' : hasB m a 2 = false := by simpa using hh
    have e : ∀ i, fV m a i = 0 := fun i => by unfold fV; rw [if_neg hh]
    have e4 : fetchE m a = 6 := by unfold fetchE; rw [if_neg hh]
    rw [e, e, e, e, e4]
    rw [hh'] at HH
    clear hh hh' e e4 hR hL
    go_enter Tryd.func32, Tryd.ntmps32
    go_upto_region 1 with fail
    rw [HV.out]
    go_wp2_with (first | (go_at_call 40; refine HH.out.mono ?_; rintro e W2 ⟨rfl, hb1⟩; have kk := (hb1.block _ hlt2).trans HV2.out; have z0 := blk_froz (i := 0) kk; have z1 := blk_froz (i := 1) kk; have z2 := blk_froz (i := 2) kk; have z3 := blk_froz (i := 3) kk; have y0 : W2.cell? ⟨w.heap.size + 1, 0, none⟩ = some (.int .i64 0) := cell_of_block (i := 0) kk rfl; have y1 : W2.cell? ⟨w.heap.size + 1, 1, none⟩ = some (.int .i64 0) := cell_of_block (i := 1) kk rfl; have y2 : W2.cell? ⟨w.heap.size + 1, 2, none⟩ = some (.int .i64 0) := cell_of_block (i := 2) kk rfl; have y3 : W2.cell? ⟨w.heap.size + 1, 3, none⟩ = some (.int .i64 0) := cell_of_block (i := 3) kk rfl; have hlt := (Array.getElem?_eq_some_iff.1 kk).1; have HB1 := Lib.hid (HV0.out.trans (hb1.mono HV0.out.size)); clear hb1 kk) | fail)
    refine bodyPost_ret (v := .tuple #[.agg #[.int .i64 0, .int .i64 0, .int .i64 0, .int .i64 0], .int .i64 6]) (by simp [results, Tryd.results32, go_sem, y0, y1, y2, y3]) rfl ⟨rfl, four HB1.out (Nat.le_succ _) _ _ _ _⟩

end Go.Proofs.YtabepbaldadmgaaDoor

namespace Go.Proofs.YtabepbaldadmgaaDoor
open Go.RowKit Isa

theorem fetch_in {m : Ma} {a : Int} (hb : 0 ≤ m.base) (h : fetchE m a = 0) : 0 ≤ a ∧ 1 ≤ fV m a 0 ∧ fV m a 0 ≤ 27 := by
  unfold fetchE at h
  by_cases hh : hasB m a 2 = true
  · rw [if_pos hh] at h
    have h1 := hasB_in hh
    obtain ⟨op, n, mm, imm, hd, hw, _⟩ := turn2 h
    have h2 := wrongI_zero hw
    have e0 : dV (wordS m a) 0 = op := by unfold dV; rw [hd]; rfl
    unfold fV
    rw [if_pos hh, e0]
    omega
  · rw [if_neg hh] at h
    exact absurd h (by decide)

/-- The machine that the next one is done in, where something leads elsewhere. -/
def preM (m : Ma) : Ma := if fV m m.pc 0 = 20 ∨ fV m m.pc 0 = 22 then { m with st := m.st + 1, pr := m.pc + 4 } else { m with st := m.st + 1 }
/-- Where it leads. -/
def destM (m : Ma) : Int := if fV m m.pc 0 = 2 then m.pr else if fV m m.pc 0 = 21 ∨ fV m m.pc 0 = 22 then m.r (fV m m.pc 1).toNat else toI (fV m m.pc 0) (fV m m.pc 3) m.pc
def stepE (m : Ma) : Int :=
  if fetchE m m.pc ≠ 0 then fetchE m m.pc
  else if fV m m.pc 0 = 27 ∧ fV m m.pc 3 = 0 then 0
  else if leadsB (fV m m.pc 0) = false then plainE { m with st := m.st + 1 } (fV m m.pc 0) (fV m m.pc 1) (fV m m.pc 2) (fV m m.pc 3) m.pc
  else if fV m m.pc 0 = 17 ∨ fV m m.pc 0 = 18 then 0
  else if fetchE (preM m) (m.pc + 2) ≠ 0 then fetchE (preM m) (m.pc + 2)
  else if leadsB (fV (preM m) (m.pc + 2) 0) = true ∨ fV (preM m) (m.pc + 2) 0 = 27 then 8
  else plainE (preM m) (fV (preM m) (m.pc + 2) 0) (fV (preM m) (m.pc + 2) 1) (fV (preM m) (m.pc + 2) 2) (fV (preM m) (m.pc + 2) 3) (m.pc + 2)
def stepD (m : Ma) : Bool := decide (fetchE m m.pc = 0 ∧ fV m m.pc 0 = 27 ∧ fV m m.pc 3 = 0)
def stepM (m : Ma) : Ma :=
  if fV m m.pc 0 = 27 ∧ fV m m.pc 3 = 0 then { m with st := m.st + 1 }
  else if leadsB (fV m m.pc 0) = false then { plainM { m with st := m.st + 1 } (fV m m.pc 0) (fV m m.pc 1) (fV m m.pc 2) (fV m m.pc 3) m.pc with pc := m.pc + 2 }
  else if fV m m.pc 0 = 17 ∨ fV m m.pc 0 = 18 then { m with st := m.st + 1, pc := if m.t = decide (fV m m.pc 0 = 17) then toI (fV m m.pc 0) (fV m m.pc 3) m.pc else m.pc + 2 }
  else { plainM (preM m) (fV (preM m) (m.pc + 2) 0) (fV (preM m) (m.pc + 2) 1) (fV (preM m) (m.pc + 2) 2) (fV (preM m) (m.pc + 2) 3) (m.pc + 2) with pc := destM m }

end Go.Proofs.YtabepbaldadmgaaDoor

namespace Go.Proofs.YtabepbaldadmgaaDoor
open Go.RowKit Isa

def in32 (x : Int) : Prop := -2147483648 ≤ x ∧ x ≤ 2147483647
def Kp (m m' : Ma) : Prop := m'.base = m.base ∧ m'.by'.length = m.by'.length ∧ m'.pc = m.pc ∧ m'.pr = m.pr ∧ m'.st = m.st
theorem kp_ite {m a b : Ma} {c : Prop} [Decidable c] (ha : Kp m a) (hb : Kp m b) : Kp m (if c then a else b) := by
  by_cases h : c
  · rw [if_pos h]; exact ha
  · rw [if_neg h]; exact hb
theorem plain_keep (m : Ma) (op n mm imm at' : Int) : Kp m (plainM m op n mm imm at') := by
  unfold plainM
  repeat' refine kp_ite ?_ ?_
  all_goals first | exact ⟨rfl, rfl, rfl, rfl, rfl⟩ | exact ⟨rfl, putS_len _ _ _, rfl, rfl, rfl⟩
theorem setR_in {m : Ma} (h : ∀ k, in32 (m.r k)) (n : Nat) {v : Int} (hv : in32 v) : ∀ k, in32 ((setR m n v).r k) := fun k => by
  unfold setR
  dsimp only
  split
  · exact hv
  · exact h k
theorem loadS_in (m : Ma) (a size : Int) : in32 (loadS m a size) := by
  unfold loadS
  split
  · exact w32_bd _
  · exact w32_bd _
def Rg (m : Ma) : Prop := ∀ k, in32 (m.r k)
theorem rg_ite {a b : Ma} {c : Prop} [Decidable c] (ha : Rg a) (hb : Rg b) : Rg (if c then a else b) := by
  by_cases h : c
  · rw [if_pos h]; exact ha
  · rw [if_neg h]; exact hb
theorem plain_in {m : Ma} (h : ∀ k, in32 (m.r k)) (op n mm imm at' : Int) (hi0 : -10000 ≤ imm) (hi1 : imm ≤ 10000) : ∀ k, in32 ((plainM m op n mm imm at').r k) := by
  have hb : in32 (a32 m mm) := w32_bd _
  have hA : in32 (a32 m n) := w32_bd _
  have hI : in32 imm := ⟨by omega, by omega⟩
  have hH : in32 (a32 m n % 4294967296 / 2) := by unfold in32; omega
  show Rg (plainM m op n mm imm at')
  unfold plainM
  repeat' refine rg_ite ?_ ?_
  all_goals first
    | exact h
    | exact setR_in h _ hI
    | exact setR_in h _ (w32_bd _)
    | exact setR_in h _ hb
    | exact setR_in h _ (bits32 _ _ _ (by simp))
    | exact setR_in h _ (loadS_in _ _ _)
    | exact setR_in (m := { m with t := _ }) h _ (w32_bd _)
    | exact setR_in (m := { m with t := _ }) h _ hH

/-- What a machine keeps while it runs: k: how many steps it has made. -/
structure Runs (m : Ma) (k : Nat) : Prop where
  b0 : 0 ≤ m.base
  b1 : m.base ≤ 1048576
  bl : m.by'.length ≤ 1048576
  tl : m.told.length ≤ 1048576 + k
  reg : ∀ k, in32 (m.r k)
  pc : in32 m.pc
  pr : in32 m.pr
  st0 : 0 ≤ m.st
  st1 : m.st ≤ 1000000 + k
theorem Runs.mok {m : Ma} {k : Nat} (h : Runs m k) (hk : k ≤ 100000) : MOk m := ⟨h.b0, h.b1, by have := h.bl; omega, by have := h.tl; omega⟩

theorem toI_near (op imm at' : Int) (h0 : 0 ≤ at') (h2 : -10000 ≤ imm) (h3 : imm ≤ 10000) : -50000 ≤ toI op imm at' ∧ toI op imm at' ≤ at' + 50000 := by
  unfold toI
  split
  · omega
  · split <;> omega
theorem told_ite {k : Nat} {a b : Ma} {c : Prop} [Decidable c] (ha : a.told.length ≤ k) (hb : b.told.length ≤ k) : (if c then a else b).told.length ≤ k := by
  by_cases h : c
  · rw [if_pos h]; exact ha
  · rw [if_neg h]; exact hb
theorem plain_told (m : Ma) (op n mm imm at' : Int) : (plainM m op n mm imm at').told.length ≤ m.told.length + 1 := by
  unfold plainM
  repeat' refine told_ite ?_ ?_
  all_goals first | exact Nat.le_succ _ | (simp; done)
theorem runs_plain {m : Ma} {k : Nat} (h : Runs m k) (op n mm imm at' : Int) (hi0 : -10000 ≤ imm) (hi1 : imm ≤ 10000) : Runs (plainM m op n mm imm at') (k + 1) := by
  obtain ⟨e1, e2, e3, e4, e5⟩ := plain_keep m op n mm imm at'
  have ht := plain_told m op n mm imm at'
  have ht2 := h.tl
  have hs := h.st1
  exact ⟨by rw [e1]; exact h.b0, by rw [e1]; exact h.b1, by rw [e2]; exact h.bl, by omega, plain_in h.reg op n mm imm at' hi0 hi1, by rw [e3]; exact h.pc, by rw [e4]; exact h.pr, by rw [e5]; exact h.st0, by rw [e5]; omega⟩
/-- Where an instruction is: not far. -/
theorem fetch_near {m : Ma} {a : Int} {k : Nat} (h : Runs m k) (he : fetchE m a = 0) : 0 ≤ a ∧ a ≤ 2097152 := by
  have hl := h.bl
  have hb := h.b0
  have hb1 := h.b1
  unfold fetchE at he
  by_cases hh : hasB m a 2 = true
  · have h1 := hasB_in hh
    omega
  · rw [if_neg hh] at he
    exact absurd he (by decide)
theorem runs_pre {m : Ma} {k : Nat} (h : Runs m k) (he : fetchE m m.pc = 0) : Runs (preM m) (k + 1) ∧ (preM m).st = m.st + 1 := by
  have hpc := fetch_near h he
  have ht := h.tl
  have hs := h.st1
  have hs0 := h.st0
  unfold preM
  split
  · exact ⟨⟨h.b0, h.b1, h.bl, by show m.told.length ≤ _; omega, h.reg, h.pc, by show in32 (m.pc + 4); unfold in32; omega, by show 0 ≤ m.st + 1; omega, by show m.st + 1 ≤ _; omega⟩, rfl⟩
  · exact ⟨⟨h.b0, h.b1, h.bl, by show m.told.length ≤ _; omega, h.reg, h.pc, h.pr, by show 0 ≤ m.st + 1; omega, by show m.st + 1 ≤ _; omega⟩, rfl⟩
theorem dest_in {m : Ma} {k : Nat} (h : Runs m k) (he : fetchE m m.pc = 0) : in32 (destM m) := by
  have hpc := fetch_near h he
  obtain ⟨b1, b2, b3, b4, b5, b6⟩ := fV_bd m m.pc
  have ht := toI_near (fV m m.pc 0) (fV m m.pc 3) m.pc hpc.1 b5 b6
  unfold destM
  split
  · exact h.pr
  · split
    · exact h.reg _
    · unfold in32; omega
theorem runs_step {m : Ma} {k : Nat} (h : Runs m k) (he : fetchE m m.pc = 0) : Runs (stepM m) (k + 1) ∧ (stepM m).st = m.st + 1 := by
  have hpc := fetch_near h he
  obtain ⟨b1, b2, b3, b4, b5, b6⟩ := fV_bd m m.pc
  have hst := h.st0
  have hst1 := h.st1
  have htl := h.tl
  have ht := toI_near (fV m m.pc 0) (fV m m.pc 3) m.pc hpc.1 b5 b6
  have hd := dest_in h he
  obtain ⟨j1, j2, j3, j4, j5, j6⟩ := fV_bd (preM m) (m.pc + 2)
  have key : ∀ {M : Ma} (op n mm imm at' p : Int), M.base = m.base → M.by' = m.by' → M.told = m.told → M.r = m.r → in32 M.pr → M.st = m.st + 1 → -10000 ≤ imm → imm ≤ 10000 → in32 p → Runs { plainM M op n mm imm at' with pc := p } (k + 1) ∧ (plainM M op n mm imm at').st = m.st + 1 := by
    intro M op n mm imm at' p q1 q2 q3 q4 q5 q6 i0 i1 hp
    obtain ⟨e1, e2, e3, e4, e5⟩ := plain_keep M op n mm imm at'
    have t1 := plain_told M op n mm imm at'
    rw [q3] at t1
    refine ⟨⟨by show 0 ≤ (plainM M op n mm imm at').base; rw [e1, q1]; exact h.b0, by show (plainM M op n mm imm at').base ≤ _; rw [e1, q1]; exact h.b1, by show (plainM M op n mm imm at').by'.length ≤ _; rw [e2, q2]; exact h.bl, by show (plainM M op n mm imm at').told.length ≤ _; omega, plain_in (by rw [q4]; exact h.reg) op n mm imm at' i0 i1, hp, by show in32 (plainM M op n mm imm at').pr; rw [e4]; exact q5, by show 0 ≤ (plainM M op n mm imm at').st; rw [e5, q6]; omega, by show (plainM M op n mm imm at').st ≤ _; rw [e5, q6]; omega⟩, by rw [e5, q6]⟩
  have pp : (preM m).base = m.base ∧ (preM m).by' = m.by' ∧ (preM m).told = m.told ∧ (preM m).r = m.r := by
    unfold preM
    split <;> exact ⟨rfl, rfl, rfl, rfl⟩
  have hpre := runs_pre h he
  unfold stepM
  split
  · exact ⟨⟨h.b0, h.b1, h.bl, by show m.told.length ≤ _; omega, h.reg, h.pc, h.pr, by show 0 ≤ m.st + 1; omega, by show m.st + 1 ≤ _; omega⟩, rfl⟩
  · split
    · exact key (M := { m with st := m.st + 1 }) (fV m m.pc 0) (fV m m.pc 1) (fV m m.pc 2) (fV m m.pc 3) m.pc (m.pc + 2) rfl rfl rfl rfl h.pr rfl b5 b6 (by unfold in32; omega)
    · split
      · refine ⟨⟨h.b0, h.b1, h.bl, by show m.told.length ≤ _; omega, h.reg, ?_, h.pr, by show 0 ≤ m.st + 1; omega, by show m.st + 1 ≤ _; omega⟩, rfl⟩
        dsimp only
        unfold in32
        split <;> omega
      · exact key (M := preM m) (fV (preM m) (m.pc + 2) 0) (fV (preM m) (m.pc + 2) 1) (fV (preM m) (m.pc + 2) 2) (fV (preM m) (m.pc + 2) 3) (m.pc + 2) (destM m) pp.1 pp.2.1 pp.2.2.1 pp.2.2.2 hpre.1.pr hpre.2 j5 j6 hd

end Go.Proofs.YtabepbaldadmgaaDoor
