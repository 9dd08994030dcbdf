import Derived.Test.YtfmljailbebfgaaGreatDoorPut13
import Derived.Laws.Tables
namespace Go.Proofs.YtfmljailbebfgaaGreatDoor.Si
open Go.RowKit Isa
def setR (m : Ma) (n : Nat) (v : Int) : Ma := { m with r := fun k => if k = n then v else m.r k }
theorem mC_reg (m : Ma) (ba : Option Addr) (bc : Nat) (sv : Value) (ta : Option Addr) (tc : Nat) (n : Nat) (hn : n < 16) : (mC m ba bc sv ta tc)[n]? = some (.int .i64 (m.r n)) := by
 match n, hn with
 | 0, _ | 1, _ | 2, _ | 3, _ | 4, _ | 5, _ | 6, _ | 7, _ | 8, _ | 9, _ | 10, _ | 11, _ | 12, _ | 13, _ | 14, _ | 15, _ => rfl
 | n + 16, h => exact absurd h (by omega)
theorem mC_set (m : Ma) (ba : Option Addr) (bc : Nat) (sv : Value) (ta : Option Addr) (tc : Nat) (n : Nat) (hn : n < 16) (v : Int) : (mC m ba bc sv ta tc).setIfInBounds n (.int .i64 v) = mC (setR m n v) ba bc sv ta tc := by
 match n, hn with
 | 0, _ | 1, _ | 2, _ | 3, _ | 4, _ | 5, _ | 6, _ | 7, _ | 8, _ | 9, _ | 10, _ | 11, _ | 12, _ | 13, _ | 14, _ | 15, _ => rfl
 | n + 16, h => exact absurd h (by omega)
def zeroM : Ma := ⟨fun _ => 0, false, 0, 0, 0, [], [], 0⟩
theorem mAll (m : Ma) (ba : Option Addr) (bc : Nat) (s0 : Option Addr) (s1 s2 : Nat) (ta : Option Addr) (tc : Nat) : (mC m ba bc (.slice s0 s1 s2) ta tc).all (·.oneCell') = true := by kernel_rfl
theorem qCe (b : BitVec 64) : IntKind.i64.wrap (b.toNat : Int) = b.toInt := by
 rw [IntKind.wrap_i64, BitVec.toInt_eq_toNat_cond]
 have := b.isLt
 split <;> omega
theorem qCV (b : BitVec 32) : IntKind.i32.wrap (b.toNat : Int) = b.toInt := by
 have e : ∀ n : Int, IntKind.i32.wrap n = (n + 2147483648) % 4294967296 - 2147483648 := fun n => by simp [IntKind.wrap, IntKind.bits, IntKind.signed]; omega
 rw [e, BitVec.toInt_eq_toNat_cond]
 have := b.isLt
 split <;> omega
theorem qB1 (x : Int) (h0 : -2147483648 <= x) (h1 : x <= 2147483647) : BitVec.ofInt 64 x = (BitVec.ofInt 32 x).signExtend 64 := by
 apply BitVec.eq_of_toInt_eq
 rw [BitVec.toInt_signExtend_of_le (by decide), BitVec.toInt_ofInt, BitVec.toInt_ofInt]
 simp only [Int.bmod]
 omega
theorem and_ext (x y : Int) (h0 : -2147483648 <= x) (h1 : x <= 2147483647) (h2 : -2147483648 <= y) (h3 : y <= 2147483647) : bits .and .i64 x y = bits .and .i32 x y := by
 show IntKind.i64.wrap ((BitVec.ofInt 64 x &&& BitVec.ofInt 64 y).toNat : Int) = IntKind.i32.wrap ((BitVec.ofInt 32 x &&& BitVec.ofInt 32 y).toNat : Int)
 rw [qCe, qCV, qB1 x h0 h1, qB1 y h2 h3, <- BitVec.signExtend_and, BitVec.toInt_signExtend_of_le (by decide)]
theorem or_ext (x y : Int) (h0 : -2147483648 <= x) (h1 : x <= 2147483647) (h2 : -2147483648 <= y) (h3 : y <= 2147483647) : bits .or .i64 x y = bits .or .i32 x y := by
 show IntKind.i64.wrap ((BitVec.ofInt 64 x ||| BitVec.ofInt 64 y).toNat : Int) = IntKind.i32.wrap ((BitVec.ofInt 32 x ||| BitVec.ofInt 32 y).toNat : Int)
 rw [qCe, qCV, qB1 x h0 h1, qB1 y h2 h3, <- BitVec.signExtend_or, BitVec.toInt_signExtend_of_le (by decide)]
theorem xor_ext (x y : Int) (h0 : -2147483648 <= x) (h1 : x <= 2147483647) (h2 : -2147483648 <= y) (h3 : y <= 2147483647) : bits .xor .i64 x y = bits .xor .i32 x y := by
 show IntKind.i64.wrap ((BitVec.ofInt 64 x ^^^ BitVec.ofInt 64 y).toNat : Int) = IntKind.i32.wrap ((BitVec.ofInt 32 x ^^^ BitVec.ofInt 32 y).toNat : Int)
 rw [qCe, qCV, qB1 x h0 h1, qB1 y h2 h3, <- BitVec.signExtend_xor, BitVec.toInt_signExtend_of_le (by decide)]
def a32 (m : Ma) (n : Int) : Int := wrap32 (m.r n.toNat)
theorem qFH (x : Int) : -2147483648 <= wrap32 x /\ wrap32 x <= 2147483647 := by unfold wrap32; omega
theorem qLH (x : Int) : -2147483648 <= IntKind.i32.wrap x /\ IntKind.i32.wrap x <= 2147483647 := by
 simp [IntKind.wrap, IntKind.bits, IntKind.signed]; omega
theorem bits32 (o : BinOp) (x y : Int) (h : o = .and \/ o = .or \/ o = .xor) : -2147483648 <= bits o .i32 x y /\ bits o .i32 x y <= 2147483647 := by
 rcases h with rfl | rfl | rfl
 ·exact qLH _
 ·exact qLH _
 ·exact qLH _
def qC8 (m : Ma) (a size : Int) : Int := if size = 2 then wrap32 (IntKind.i16.wrap (qBF (bsOf m.by') m.by'.length (a - m.base) 2)) else wrap32 (qBF (bsOf m.by') m.by'.length (a - m.base) 4)
theorem get2_bd (m : Ma) (a : Int) : 0 <= qBF (bsOf m.by') m.by'.length a 2 /\ qBF (bsOf m.by') m.by'.length a 2 <= 65535 := by
 have := qFM (qDL m.by') m.by'.length a 2
 omega
theorem get4_bd (m : Ma) (a : Int) : 0 <= qBF (bsOf m.by') m.by'.length a 4 /\ qBF (bsOf m.by') m.by'.length a 4 <= 4294967295 := by
 have := qFM (qDL m.by') m.by'.length a 4
 omega
def putS (m : Ma) (a v : Int) : List UInt8 := (List.range m.by'.length).map fun i => UInt8.ofNat (qAi (bsOf m.by') (a - m.base) 4 v i).toNat
theorem putS_len (m : Ma) (a v : Int) : (putS m a v).length = m.by'.length := by simp [putS]
def TRd (w : World) (ta : Option Addr) (l : List Int) : Prop := 0 < l.length -> ∃ b off, ta = some ⟨b, off, none⟩ /\ b < w.heap.size /\ ∀ i, i < l.length -> w.cell? ⟨b, off + i, none⟩ = some (.int .i64 (l.getD i 0))
theorem TRd.next {w w' : World} {ta : Option Addr} {l : List Int} (h : TRd w ta l) (hb : Below w.heap.size w w') : TRd w' ta l := fun h0 => by
 obtain ⟨b, off, e, hl, hc⟩ := h h0
 exact ⟨b, off, e, Nat.lt_of_lt_of_le hl hb.size, fun i hi => (hb.cell (p := ⟨b, off + i, none⟩) hl).trans (hc i hi)⟩
def qEe (m : Ma) (op n mm imm at' : Int) : Int := if op = 25 then a32 m n else if op = 26 then a32 m mm else toI op imm at'
def qEP (op : Int) : Int := if op = 23 then 2 else 4
def qAN (m : Ma) (op n mm imm at' : Int) : Int := if 23 <= op /\ op <= 26 /\ hasB m (qEe m op n mm imm at') (qEP op) = false then 3 else 0
def qX (m : Ma) (op n mm imm at' : Int) : Ma :=
 if op = 1 then m
 else if op = 3 then setR m n.toNat imm
 else if op = 4 then setR m n.toNat (wrap32 (a32 m n + imm))
 else if op = 5 then setR m n.toNat (a32 m mm)
 else if op = 6 then setR m n.toNat (wrap32 (a32 m n + a32 m mm))
 else if op = 7 then setR m n.toNat (wrap32 (a32 m n - a32 m mm))
 else if op = 8 then setR m n.toNat (bits .and .i32 (a32 m n) (a32 m mm))
 else if op = 9 then setR m n.toNat (bits .or .i32 (a32 m n) (a32 m mm))
 else if op = 10 then setR m n.toNat (bits .xor .i32 (a32 m n) (a32 m mm))
 else if op = 11 then { m with t := (bits .and .i32 (a32 m n) (a32 m mm) == 0) }
 else if op = 12 then { m with t := (a32 m n == a32 m mm) }
 else if op = 13 then { m with t := decide (a32 m mm < a32 m n) }
 else if op = 14 then setR { m with t := decide (a32 m n < 0) } n.toNat (wrap32 (2 * a32 m n))
 else if op = 15 then setR { m with t := ((a32 m n).tmod 2 != 0) } n.toNat (a32 m n % 4294967296 / 2)
 else if op = 16 then { setR m n.toNat (wrap32 (a32 m n - 1)) with t := (wrap32 (a32 m n - 1) == 0) }
 else if op = 27 then { m with told := m.told ++ [m.r 0] }
 else if hasB m (qEe m op n mm imm at') (qEP op) = false then m
 else if op = 25 then { m with by' := putS m (a32 m n) (a32 m mm) }
 else setR m n.toNat (qC8 m (qEe m op n mm imm at') (qEP op))
structure MOk (m : Ma) : Prop where
 b0 : 0 <= m.base
 b1 : m.base <= 1048576
 bl : m.by'.length <= 140737488351232
 tl : m.told.length <= 1000000000
def zC : Array Value := mC zeroM none 0 (.slice none 0 0) none 0
theorem qGf : (Tryz.prog.info? 43).map (·.size) = some zC.size := by kernel_rfl
theorem zAll : zC.all (·.oneCell') = true := by kernel_rfl
theorem zLit : zC = #[.int .i64 0, .int .i64 0, .int .i64 0, .int .i64 0, .int .i64 0, .int .i64 0, .int .i64 0, .int .i64 0, .int .i64 0, .int .i64 0, .int .i64 0, .int .i64 0, .int .i64 0, .int .i64 0, .int .i64 0, .int .i64 0, .bool false, .int .i64 0, .int .i64 0, .int .i64 0, .slice none 0 0, .slice none 0 0, .slice none 0 0, .int .i64 0] := rfl
theorem qIh {m : Ma} {a : Int} (hb : 0 <= m.base) (h : qe m a = 0) : 0 <= a /\ 1 <= fV m a 0 /\ fV m a 0 <= 27 := by
 unfold qe at h
 by_cases hh : hasB m a 2 = true
 ·rw [if_pos hh] at h
  have h1 := qFn hh
  obtain ⟨op, n, mm, imm, hd, hw, _⟩ := turn2 h
  have h2 := qCH hw
  have e0 : dV (qBc m a) 0 = op := by unfold dV; rw [hd]; rfl
  unfold fV
  rw [if_pos hh, e0]
  omega
 ·rw [if_neg hh] at h
  exact absurd h (by decide)
def preM (m : Ma) : Ma := if fV m m.pc 0 = 20 \/ fV m m.pc 0 = 22 then { m with st := m.st + 1, pr := m.pc + 4 } else { m with st := m.st + 1 }
def qEB (m : Ma) : Int := if fV m m.pc 0 = 2 then m.pr else if fV m m.pc 0 = 21 \/ fV m m.pc 0 = 22 then m.r (fV m m.pc 1).toNat else toI (fV m m.pc 0) (fV m m.pc 3) m.pc
def qAE (m : Ma) : Int :=
 if qe m m.pc ≠ 0 then qe m m.pc
 else if fV m m.pc 0 = 27 /\ fV m m.pc 3 = 0 then 0
 else if qAX (fV m m.pc 0) = false then qAN { m with st := m.st + 1 } (fV m m.pc 0) (fV m m.pc 1) (fV m m.pc 2) (fV m m.pc 3) m.pc
 else if fV m m.pc 0 = 17 \/ fV m m.pc 0 = 18 then 0
 else if qe (preM m) (m.pc + 2) ≠ 0 then qe (preM m) (m.pc + 2)
 else if qAX (fV (preM m) (m.pc + 2) 0) = true \/ fV (preM m) (m.pc + 2) 0 = 27 then 8
 else qAN (preM m) (fV (preM m) (m.pc + 2) 0) (fV (preM m) (m.pc + 2) 1) (fV (preM m) (m.pc + 2) 2) (fV (preM m) (m.pc + 2) 3) (m.pc + 2)
def qAm (m : Ma) : Bool := decide (qe m m.pc = 0 /\ fV m m.pc 0 = 27 /\ fV m m.pc 3 = 0)
def qx (m : Ma) : Ma :=
 if fV m m.pc 0 = 27 /\ fV m m.pc 3 = 0 then { m with st := m.st + 1 }
 else if qAX (fV m m.pc 0) = false then { qX { m with st := m.st + 1 } (fV m m.pc 0) (fV m m.pc 1) (fV m m.pc 2) (fV m m.pc 3) m.pc with pc := m.pc + 2 }
 else if fV m m.pc 0 = 17 \/ fV m m.pc 0 = 18 then { m with st := m.st + 1, pc := if m.t = decide (fV m m.pc 0 = 17) then toI (fV m m.pc 0) (fV m m.pc 3) m.pc else m.pc + 2 }
 else { qX (preM m) (fV (preM m) (m.pc + 2) 0) (fV (preM m) (m.pc + 2) 1) (fV (preM m) (m.pc + 2) 2) (fV (preM m) (m.pc + 2) 3) (m.pc + 2) with pc := qEB m }
def in32 (x : Int) : Prop := -2147483648 <= x /\ x <= 2147483647
def Kp (m m' : Ma) : Prop := m'.base = m.base /\ m'.by'.length = m.by'.length /\ m'.pc = m.pc /\ m'.pr = m.pr /\ m'.st = m.st
theorem kp_ite {m a b : Ma} {c : Prop} [Decidable c] (ha : Kp m a) (hb : Kp m b) : Kp m (if c then a else b) := by
 by_cases h : c
 ·rw [if_pos h]; exact ha
 ·rw [if_neg h]; exact hb
theorem qCn (m : Ma) (op n mm imm at' : Int) : Kp m (qX m op n mm imm at') := by
 unfold qX
 repeat' refine kp_ite ?_ ?_
 all_goals first | exact ⟨rfl, rfl, rfl, rfl, rfl⟩ | exact ⟨rfl, putS_len _ _ _, rfl, rfl, rfl⟩
theorem qC0 {m : Ma} (h : ∀ k, in32 (m.r k)) (n : Nat) {v : Int} (hv : in32 v) : ∀ k, in32 ((setR m n v).r k) := fun k => by
 unfold setR
 dsimp only
 split
 ·exact hv
 ·exact h k
theorem loadS_in (m : Ma) (a size : Int) : in32 (qC8 m a size) := by
 unfold qC8
 split
 ·exact qFH _
 ·exact qFH _
def Rg (m : Ma) : Prop := ∀ k, in32 (m.r k)
theorem rg_ite {a b : Ma} {c : Prop} [Decidable c] (ha : Rg a) (hb : Rg b) : Rg (if c then a else b) := by
 by_cases h : c
 ·rw [if_pos h]; exact ha
 ·rw [if_neg h]; exact hb
theorem plain_in {m : Ma} (h : ∀ k, in32 (m.r k)) (op n mm imm at' : Int) (hi0 : -10000 <= imm) (hi1 : imm <= 10000) : ∀ k, in32 ((qX m op n mm imm at').r k) := by
 have hb : in32 (a32 m mm) := qFH _
 have hA : in32 (a32 m n) := qFH _
 have hI : in32 imm := ⟨by omega, by omega⟩
 have hH : in32 (a32 m n % 4294967296 / 2) := by unfold in32; omega
 show Rg (qX m op n mm imm at')
 unfold qX
 repeat' refine rg_ite ?_ ?_
 all_goals first
  | exact h
  | exact qC0 h _ hI
  | exact qC0 h _ (qFH _)
  | exact qC0 h _ hb
  | exact qC0 h _ (bits32 _ _ _ (by simp))
  | exact qC0 h _ (loadS_in _ _ _)
  | exact qC0 (m := { m with t := _ }) h _ (qFH _)
  | exact qC0 (m := { m with t := _ }) h _ hH
structure Runs (m : Ma) (k : Nat) : Prop where
 b0 : 0 <= m.base
 b1 : m.base <= 1048576
 bl : m.by'.length <= 1048576
 tl : m.told.length <= 1048576 + k
 reg : ∀ k, in32 (m.r k)
 pc : in32 m.pc
 pr : in32 m.pr
 st0 : 0 <= m.st
 st1 : m.st <= 1000000 + k
theorem Runs.mok {m : Ma} {k : Nat} (h : Runs m k) (hk : k <= 100000) : MOk m := ⟨h.b0, h.b1, by have := h.bl; omega, by have := h.tl; omega⟩
theorem qD6 (op imm at' : Int) (h0 : 0 <= at') (h2 : -10000 <= imm) (h3 : imm <= 10000) : -50000 <= toI op imm at' /\ toI op imm at' <= at' + 50000 := by
 unfold toI
 split
 ·omega
 ·split <;> omega
theorem told_ite {k : Nat} {a b : Ma} {c : Prop} [Decidable c] (ha : a.told.length <= k) (hb : b.told.length <= k) : (if c then a else b).told.length <= k := by
 by_cases h : c
 ·rw [if_pos h]; exact ha
 ·rw [if_neg h]; exact hb
theorem qJI (m : Ma) (op n mm imm at' : Int) : (qX m op n mm imm at').told.length <= m.told.length + 1 := by
 unfold qX
 repeat' refine told_ite ?_ ?_
 all_goals first | exact Nat.le_succ _ | (simp; done)
theorem qB7 {m : Ma} {a : Int} {k : Nat} (h : Runs m k) (he : qe m a = 0) : 0 <= a /\ a <= 2097152 := by
 have hl := h.bl
 have hb := h.b0
 have hb1 := h.b1
 unfold qe at he
 by_cases hh : hasB m a 2 = true
 ·have h1 := qFn hh
  omega
 ·rw [if_neg hh] at he
  exact absurd he (by decide)
theorem runs_pre {m : Ma} {k : Nat} (h : Runs m k) (he : qe m m.pc = 0) : Runs (preM m) (k + 1) /\ (preM m).st = m.st + 1 := by
 have hpc := qB7 h he
 have ht := h.tl
 have hs := h.st1
 have hs0 := h.st0
 unfold preM
 split
 ·exact ⟨⟨h.b0, h.b1, h.bl, by show m.told.length <= _; omega, h.reg, h.pc, by show in32 (m.pc + 4); unfold in32; omega, by show 0 <= m.st + 1; omega, by show m.st + 1 <= _; omega⟩, rfl⟩
 ·exact ⟨⟨h.b0, h.b1, h.bl, by show m.told.length <= _; omega, h.reg, h.pc, h.pr, by show 0 <= m.st + 1; omega, by show m.st + 1 <= _; omega⟩, rfl⟩
theorem dest_in {m : Ma} {k : Nat} (h : Runs m k) (he : qe m m.pc = 0) : in32 (qEB m) := by
 have hpc := qB7 h he
 obtain ⟨b1, b2, b3, b4, b5, b6⟩ := qJs m m.pc
 have ht := qD6 (fV m m.pc 0) (fV m m.pc 3) m.pc hpc.1 b5 b6
 unfold qEB
 split
 ·exact h.pr
 ·split
  ·exact h.reg _
  ·unfold in32; omega
theorem qLh {m : Ma} {k : Nat} (h : Runs m k) (he : qe m m.pc = 0) : Runs (qx m) (k + 1) /\ (qx m).st = m.st + 1 := by
 have hpc := qB7 h he
 obtain ⟨b1, b2, b3, b4, b5, b6⟩ := qJs m m.pc
 have hst := h.st0
 have hst1 := h.st1
 have htl := h.tl
 have ht := qD6 (fV m m.pc 0) (fV m m.pc 3) m.pc hpc.1 b5 b6
 have hd := dest_in h he
 obtain ⟨j1, j2, j3, j4, j5, j6⟩ := qJs (preM m) (m.pc + 2)
 have key : ∀ {M : Ma} (op n mm imm at' p : Int), M.base = m.base -> M.by' = m.by' -> M.told = m.told -> M.r = m.r -> in32 M.pr -> M.st = m.st + 1 -> -10000 <= imm -> imm <= 10000 -> in32 p -> Runs { qX M op n mm imm at' with pc := p } (k + 1) /\ (qX M op n mm imm at').st = m.st + 1 := by
  intro M op n mm imm at' p q1 q2 q3 q4 q5 q6 i0 i1 hp
  obtain ⟨e1, e2, e3, e4, e5⟩ := qCn M op n mm imm at'
  have t1 := qJI M op n mm imm at'
  rw [q3] at t1
  refine ⟨⟨by show 0 <= (qX M op n mm imm at').base; rw [e1, q1]; exact h.b0, by show (qX M op n mm imm at').base <= _; rw [e1, q1]; exact h.b1, by show (qX M op n mm imm at').by'.length <= _; rw [e2, q2]; exact h.bl, by show (qX M op n mm imm at').told.length <= _; omega, plain_in (by rw [q4]; exact h.reg) op n mm imm at' i0 i1, hp, by show in32 (qX M op n mm imm at').pr; rw [e4]; exact q5, by show 0 <= (qX M op n mm imm at').st; rw [e5, q6]; omega, by show (qX M op n mm imm at').st <= _; rw [e5, q6]; omega⟩, by rw [e5, q6]⟩
 have pp : (preM m).base = m.base /\ (preM m).by' = m.by' /\ (preM m).told = m.told /\ (preM m).r = m.r := by
  unfold preM
  split <;> exact ⟨rfl, rfl, rfl, rfl⟩
 have hpre := runs_pre h he
 unfold qx
 split
 ·exact ⟨⟨h.b0, h.b1, h.bl, by show m.told.length <= _; omega, h.reg, h.pc, h.pr, by show 0 <= m.st + 1; omega, by show m.st + 1 <= _; omega⟩, rfl⟩
 ·split
  ·exact key (M := { m with st := m.st + 1 }) (fV m m.pc 0) (fV m m.pc 1) (fV m m.pc 2) (fV m m.pc 3) m.pc (m.pc + 2) rfl rfl rfl rfl h.pr rfl b5 b6 (by unfold in32; omega)
  ·split
   ·refine ⟨⟨h.b0, h.b1, h.bl, by show m.told.length <= _; omega, h.reg, ?_, h.pr, by show 0 <= m.st + 1; omega, by show m.st + 1 <= _; omega⟩, rfl⟩
    dsimp only
    unfold in32
    split <;> omega
   ·exact key (M := preM m) (fV (preM m) (m.pc + 2) 0) (fV (preM m) (m.pc + 2) 1) (fV (preM m) (m.pc + 2) 2) (fV (preM m) (m.pc + 2) 3) (m.pc + 2) (qEB m) pp.1 pp.2.1 pp.2.2.1 pp.2.2.2 hpre.1.pr hpre.2 j5 j6 hd
def runE : Nat -> Ma -> Int
 | 0, _ => 13
 | k + 1, m => if qAE m ≠ 0 then qAE m else if qAm m = true then 0 else runE k (qx m)
def runM : Nat -> Ma -> Ma
 | 0, _ => zeroM
 | k + 1, m => if qAE m ≠ 0 then zeroM else if qAm m = true then qx m else runM k (qx m)
end Go.Proofs.YtfmljailbebfgaaGreatDoor.Si
