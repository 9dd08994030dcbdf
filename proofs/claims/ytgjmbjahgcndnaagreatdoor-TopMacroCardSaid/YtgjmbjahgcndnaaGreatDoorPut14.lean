import Derived.Test.YtgjmbjahgcndnaaGreatDoorPut12
import Derived.Laws.Tables
import Derived.Deep.QuietTactic
set_option maxHeartbeats 2000000
set_option maxRecDepth 100000
namespace Go.Proofs.YtgjmbjahgcndnaaGreatDoor.Si
open Go.RowKit Isa
def setR (m : Ma) (n : Nat) (v : Int) : Ma := { m with r := fun k => if k = n then v else m.r k }
theorem mC_reg (m : Ma) (ba : Option Addr) (bc : Nat) (sv : Value) (ta : Option Addr) (tc : Nat) (n : Nat) (hn : n < 16) : (mC m ba bc sv ta tc)[n]? = some (.int .i64 (m.r n)) := by
 match n, hn with
 | 0, _ | 1, _ | 2, _ | 3, _ | 4, _ | 5, _ | 6, _ | 7, _ | 8, _ | 9, _ | 10, _ | 11, _ | 12, _ | 13, _ | 14, _ | 15, _ => rfl
 | n + 16, h => exact absurd h (by omega)
theorem mC_set (m : Ma) (ba : Option Addr) (bc : Nat) (sv : Value) (ta : Option Addr) (tc : Nat) (n : Nat) (hn : n < 16) (v : Int) : (mC m ba bc sv ta tc).setIfInBounds n (.int .i64 v) = mC (setR m n v) ba bc sv ta tc := by
 match n, hn with
 | 0, _ | 1, _ | 2, _ | 3, _ | 4, _ | 5, _ | 6, _ | 7, _ | 8, _ | 9, _ | 10, _ | 11, _ | 12, _ | 13, _ | 14, _ | 15, _ => rfl
 | n + 16, h => exact absurd h (by omega)
def zeroM : Ma := ⟨fun _ => 0, false, 0, 0, 0, [], [], 0⟩
theorem mAll (m : Ma) (ba : Option Addr) (bc : Nat) (s0 : Option Addr) (s1 s2 : Nat) (ta : Option Addr) (tc : Nat) : (mC m ba bc (.slice s0 s1 s2) ta tc).all (·.oneCell') = true := by kernel_rfl
theorem qCR (b : BitVec 64) : IntKind.i64.wrap (b.toNat : Int) = b.toInt := by
 rw [IntKind.wrap_i64, BitVec.toInt_eq_toNat_cond]
 have := b.isLt
 split <;> omega
theorem qCQ (b : BitVec 32) : IntKind.i32.wrap (b.toNat : Int) = b.toInt := by
 have e : ∀ n : Int, IntKind.i32.wrap n = (n + 2147483648) % 4294967296 - 2147483648 := fun n => by simp [IntKind.wrap, IntKind.bits, IntKind.signed]; omega
 rw [e, BitVec.toInt_eq_toNat_cond]
 have := b.isLt
 split <;> omega
theorem qBr (x : Int) (h0 : -2147483648 <= x) (h1 : x <= 2147483647) : BitVec.ofInt 64 x = (BitVec.ofInt 32 x).signExtend 64 := by
 apply BitVec.eq_of_toInt_eq
 rw [BitVec.toInt_signExtend_of_le (by decide), BitVec.toInt_ofInt, BitVec.toInt_ofInt]
 simp only [Int.bmod]
 omega
theorem and_ext (x y : Int) (h0 : -2147483648 <= x) (h1 : x <= 2147483647) (h2 : -2147483648 <= y) (h3 : y <= 2147483647) : bits .and .i64 x y = bits .and .i32 x y := by
 show IntKind.i64.wrap ((BitVec.ofInt 64 x &&& BitVec.ofInt 64 y).toNat : Int) = IntKind.i32.wrap ((BitVec.ofInt 32 x &&& BitVec.ofInt 32 y).toNat : Int)
 rw [qCR, qCQ, qBr x h0 h1, qBr y h2 h3, <- BitVec.signExtend_and, BitVec.toInt_signExtend_of_le (by decide)]
theorem or_ext (x y : Int) (h0 : -2147483648 <= x) (h1 : x <= 2147483647) (h2 : -2147483648 <= y) (h3 : y <= 2147483647) : bits .or .i64 x y = bits .or .i32 x y := by
 show IntKind.i64.wrap ((BitVec.ofInt 64 x ||| BitVec.ofInt 64 y).toNat : Int) = IntKind.i32.wrap ((BitVec.ofInt 32 x ||| BitVec.ofInt 32 y).toNat : Int)
 rw [qCR, qCQ, qBr x h0 h1, qBr y h2 h3, <- BitVec.signExtend_or, BitVec.toInt_signExtend_of_le (by decide)]
theorem xor_ext (x y : Int) (h0 : -2147483648 <= x) (h1 : x <= 2147483647) (h2 : -2147483648 <= y) (h3 : y <= 2147483647) : bits .xor .i64 x y = bits .xor .i32 x y := by
 show IntKind.i64.wrap ((BitVec.ofInt 64 x ^^^ BitVec.ofInt 64 y).toNat : Int) = IntKind.i32.wrap ((BitVec.ofInt 32 x ^^^ BitVec.ofInt 32 y).toNat : Int)
 rw [qCR, qCQ, qBr x h0 h1, qBr y h2 h3, <- BitVec.signExtend_xor, BitVec.toInt_signExtend_of_le (by decide)]
def a32 (m : Ma) (n : Int) : Int := wrap32 (m.r n.toNat)
theorem qEh (x : Int) : -2147483648 <= wrap32 x /\ wrap32 x <= 2147483647 := by unfold wrap32; omega
theorem qKi (x : Int) : -2147483648 <= IntKind.i32.wrap x /\ IntKind.i32.wrap x <= 2147483647 := by
 simp [IntKind.wrap, IntKind.bits, IntKind.signed]; omega
theorem bits32 (o : BinOp) (x y : Int) (h : o = .and \/ o = .or \/ o = .xor) : -2147483648 <= bits o .i32 x y /\ bits o .i32 x y <= 2147483647 := by
 rcases h with rfl | rfl | rfl
 ·exact qKi _
 ·exact qKi _
 ·exact qKi _
def loadS (m : Ma) (a size : Int) : Int := if size = 2 then wrap32 (IntKind.i16.wrap (qCk (bsOf m.by') m.by'.length (a - m.base) 2)) else wrap32 (qCk (bsOf m.by') m.by'.length (a - m.base) 4)
def putS (m : Ma) (a v : Int) : List UInt8 := (List.range m.by'.length).map fun i => UInt8.ofNat (qAe (bsOf m.by') (a - m.base) 4 v i).toNat
theorem putS_len (m : Ma) (a v : Int) : (putS m a v).length = m.by'.length := by simp [putS]
def TRd (w : World) (ta : Option Addr) (l : List Int) : Prop := 0 < l.length -> ∃ b off, ta = some ⟨b, off, none⟩ /\ b < w.heap.size /\ ∀ i, i < l.length -> w.cell? ⟨b, off + i, none⟩ = some (.int .i64 (l.getD i 0))
theorem TRd.next {w w' : World} {ta : Option Addr} {l : List Int} (h : TRd w ta l) (hb : Below w.heap.size w w') : TRd w' ta l := fun h0 => by
 obtain ⟨b, off, e, hl, hc⟩ := h h0
 exact ⟨b, off, e, Nat.lt_of_lt_of_le hl hb.size, fun i hi => (hb.cell (p := ⟨b, off + i, none⟩) hl).trans (hc i hi)⟩
def memAt (m : Ma) (op n mm imm at' : Int) : Int := if op = 25 then a32 m n else if op = 26 then a32 m mm else toI op imm at'
def memSz (op : Int) : Int := if op = 23 then 2 else 4
def qBX (m : Ma) (op n mm imm at' : Int) : Int := if 23 <= op /\ op <= 26 /\ hasB m (memAt m op n mm imm at') (memSz op) = false then 3 else 0
def qAB (m : Ma) (op n mm imm at' : Int) : Ma :=
 if op = 1 then m
 else if op = 3 then setR m n.toNat imm
 else if op = 4 then setR m n.toNat (wrap32 (a32 m n + imm))
 else if op = 5 then setR m n.toNat (a32 m mm)
 else if op = 6 then setR m n.toNat (wrap32 (a32 m n + a32 m mm))
 else if op = 7 then setR m n.toNat (wrap32 (a32 m n - a32 m mm))
 else if op = 8 then setR m n.toNat (bits .and .i32 (a32 m n) (a32 m mm))
 else if op = 9 then setR m n.toNat (bits .or .i32 (a32 m n) (a32 m mm))
 else if op = 10 then setR m n.toNat (bits .xor .i32 (a32 m n) (a32 m mm))
 else if op = 11 then { m with t := (bits .and .i32 (a32 m n) (a32 m mm) == 0) }
 else if op = 12 then { m with t := (a32 m n == a32 m mm) }
 else if op = 13 then { m with t := decide (a32 m mm < a32 m n) }
 else if op = 14 then setR { m with t := decide (a32 m n < 0) } n.toNat (wrap32 (2 * a32 m n))
 else if op = 15 then setR { m with t := ((a32 m n).tmod 2 != 0) } n.toNat (a32 m n % 4294967296 / 2)
 else if op = 16 then { setR m n.toNat (wrap32 (a32 m n - 1)) with t := (wrap32 (a32 m n - 1) == 0) }
 else if op = 27 then { m with told := m.told ++ [m.r 0] }
 else if hasB m (memAt m op n mm imm at') (memSz op) = false then m
 else if op = 25 then { m with by' := putS m (a32 m n) (a32 m mm) }
 else setR m n.toNat (loadS m (memAt m op n mm imm at') (memSz op))
structure MOk (m : Ma) : Prop where
 b0 : 0 <= m.base
 b1 : m.base <= 1048576
 bl : m.by'.length <= 140737488351232
 tl : m.told.length <= 1000000000
def zC : Array Value := mC zeroM none 0 (.slice none 0 0) none 0
theorem qGP : (Tryz.prog.info? 41).map (·.size) = some zC.size := by kernel_rfl
theorem zAll : zC.all (·.oneCell') = true := by kernel_rfl
theorem zLit : zC = #[.int .i64 0, .int .i64 0, .int .i64 0, .int .i64 0, .int .i64 0, .int .i64 0, .int .i64 0, .int .i64 0, .int .i64 0, .int .i64 0, .int .i64 0, .int .i64 0, .int .i64 0, .int .i64 0, .int .i64 0, .int .i64 0, .bool false, .int .i64 0, .int .i64 0, .int .i64 0, .slice none 0 0, .slice none 0 0, .slice none 0 0, .int .i64 0] := rfl
theorem fetch_in {m : Ma} {a : Int} (hb : 0 <= m.base) (h : qt m a = 0) : 0 <= a /\ 1 <= fV m a 0 /\ fV m a 0 <= 27 := by
 unfold qt at h
 by_cases hh : hasB m a 2 = true
 ·rw [if_pos hh] at h
  have h1 := qHL hh
  obtain ⟨op, n, mm, imm, hd, hw, _⟩ := turn2 h
  have h2 := qB3 hw
  have e0 : dV (qBW m a) 0 = op := by unfold dV; rw [hd]; rfl
  unfold fV
  rw [if_pos hh, e0]
  omega
 ·rw [if_neg hh] at h
  exact absurd h (by decide)
def preM (m : Ma) : Ma := if fV m m.pc 0 = 20 \/ fV m m.pc 0 = 22 then { m with st := m.st + 1, pr := m.pc + 4 } else { m with st := m.st + 1 }
def destM (m : Ma) : Int := if fV m m.pc 0 = 2 then m.pr else if fV m m.pc 0 = 21 \/ fV m m.pc 0 = 22 then m.r (fV m m.pc 1).toNat else toI (fV m m.pc 0) (fV m m.pc 3) m.pc
def qAN (m : Ma) : Int :=
 if qt m m.pc ≠ 0 then qt m m.pc
 else if fV m m.pc 0 = 27 /\ fV m m.pc 3 = 0 then 0
 else if qBo (fV m m.pc 0) = false then qBX { m with st := m.st + 1 } (fV m m.pc 0) (fV m m.pc 1) (fV m m.pc 2) (fV m m.pc 3) m.pc
 else if fV m m.pc 0 = 17 \/ fV m m.pc 0 = 18 then 0
 else if qt (preM m) (m.pc + 2) ≠ 0 then qt (preM m) (m.pc + 2)
 else if qBo (fV (preM m) (m.pc + 2) 0) = true \/ fV (preM m) (m.pc + 2) 0 = 27 then 8
 else qBX (preM m) (fV (preM m) (m.pc + 2) 0) (fV (preM m) (m.pc + 2) 1) (fV (preM m) (m.pc + 2) 2) (fV (preM m) (m.pc + 2) 3) (m.pc + 2)
def qA3 (m : Ma) : Bool := decide (qt m m.pc = 0 /\ fV m m.pc 0 = 27 /\ fV m m.pc 3 = 0)
def qAU (m : Ma) : Ma :=
 if fV m m.pc 0 = 27 /\ fV m m.pc 3 = 0 then { m with st := m.st + 1 }
 else if qBo (fV m m.pc 0) = false then { qAB { m with st := m.st + 1 } (fV m m.pc 0) (fV m m.pc 1) (fV m m.pc 2) (fV m m.pc 3) m.pc with pc := m.pc + 2 }
 else if fV m m.pc 0 = 17 \/ fV m m.pc 0 = 18 then { m with st := m.st + 1, pc := if m.t = decide (fV m m.pc 0 = 17) then toI (fV m m.pc 0) (fV m m.pc 3) m.pc else m.pc + 2 }
 else { qAB (preM m) (fV (preM m) (m.pc + 2) 0) (fV (preM m) (m.pc + 2) 1) (fV (preM m) (m.pc + 2) 2) (fV (preM m) (m.pc + 2) 3) (m.pc + 2) with pc := destM m }
def in32 (x : Int) : Prop := -2147483648 <= x /\ x <= 2147483647
def Kp (m m' : Ma) : Prop := m'.base = m.base /\ m'.by'.length = m.by'.length /\ m'.pc = m.pc /\ m'.pr = m.pr /\ m'.st = m.st
theorem kp_ite {m a b : Ma} {c : Prop} [Decidable c] (ha : Kp m a) (hb : Kp m b) : Kp m (if c then a else b) := by
 by_cases h : c
 ·rw [if_pos h]; exact ha
 ·rw [if_neg h]; exact hb
theorem qCa (m : Ma) (op n mm imm at' : Int) : Kp m (qAB m op n mm imm at') := by
 unfold qAB
 repeat' refine kp_ite ?_ ?_
 all_goals first | exact ⟨rfl, rfl, rfl, rfl, rfl⟩ | exact ⟨rfl, putS_len _ _ _, rfl, rfl, rfl⟩
theorem qCr {m : Ma} (h : ∀ k, in32 (m.r k)) (n : Nat) {v : Int} (hv : in32 v) : ∀ k, in32 ((setR m n v).r k) := fun k => by
 unfold setR
 dsimp only
 split
 ·exact hv
 ·exact h k
theorem loadS_in (m : Ma) (a size : Int) : in32 (loadS m a size) := by
 unfold loadS
 split
 ·exact qEh _
 ·exact qEh _
def Rg (m : Ma) : Prop := ∀ k, in32 (m.r k)
theorem rg_ite {a b : Ma} {c : Prop} [Decidable c] (ha : Rg a) (hb : Rg b) : Rg (if c then a else b) := by
 by_cases h : c
 ·rw [if_pos h]; exact ha
 ·rw [if_neg h]; exact hb
theorem plain_in {m : Ma} (h : ∀ k, in32 (m.r k)) (op n mm imm at' : Int) (hi0 : -10000 <= imm) (hi1 : imm <= 10000) : ∀ k, in32 ((qAB m op n mm imm at').r k) := by
 have hb : in32 (a32 m mm) := qEh _
 have hA : in32 (a32 m n) := qEh _
 have hI : in32 imm := ⟨by omega, by omega⟩
 have hH : in32 (a32 m n % 4294967296 / 2) := by unfold in32; omega
 show Rg (qAB m op n mm imm at')
 unfold qAB
 repeat' refine rg_ite ?_ ?_
 all_goals first
  | exact h
  | exact qCr h _ hI
  | exact qCr h _ (qEh _)
  | exact qCr h _ hb
  | exact qCr h _ (bits32 _ _ _ (by simp))
  | exact qCr h _ (loadS_in _ _ _)
  | exact qCr (m := { m with t := _ }) h _ (qEh _)
  | exact qCr (m := { m with t := _ }) h _ hH
structure Runs (m : Ma) (k : Nat) : Prop where
 b0 : 0 <= m.base
 b1 : m.base <= 1048576
 bl : m.by'.length <= 1048576
 tl : m.told.length <= 1048576 + k
 reg : ∀ k, in32 (m.r k)
 pc : in32 m.pc
 pr : in32 m.pr
 st0 : 0 <= m.st
 st1 : m.st <= 1000000 + k
theorem Runs.mok {m : Ma} {k : Nat} (h : Runs m k) (hk : k <= 100000) : MOk m := ⟨h.b0, h.b1, by have := h.bl; omega, by have := h.tl; omega⟩
theorem qHk (op imm at' : Int) (h0 : 0 <= at') (h2 : -10000 <= imm) (h3 : imm <= 10000) : -50000 <= toI op imm at' /\ toI op imm at' <= at' + 50000 := by
 unfold toI
 split
 ·omega
 ·split <;> omega
theorem told_ite {k : Nat} {a b : Ma} {c : Prop} [Decidable c] (ha : a.told.length <= k) (hb : b.told.length <= k) : (if c then a else b).told.length <= k := by
 by_cases h : c
 ·rw [if_pos h]; exact ha
 ·rw [if_neg h]; exact hb
theorem qIm (m : Ma) (op n mm imm at' : Int) : (qAB m op n mm imm at').told.length <= m.told.length + 1 := by
 unfold qAB
 repeat' refine told_ite ?_ ?_
 all_goals first | exact Nat.le_succ _ | (simp; done)
theorem qCf {m : Ma} {a : Int} {k : Nat} (h : Runs m k) (he : qt m a = 0) : 0 <= a /\ a <= 2097152 := by
 have hl := h.bl
 have hb := h.b0
 have hb1 := h.b1
 unfold qt at he
 by_cases hh : hasB m a 2 = true
 ·have h1 := qHL hh
  omega
 ·rw [if_neg hh] at he
  exact absurd he (by decide)
theorem runs_pre {m : Ma} {k : Nat} (h : Runs m k) (he : qt m m.pc = 0) : Runs (preM m) (k + 1) /\ (preM m).st = m.st + 1 := by
 have hpc := qCf h he
 have ht := h.tl
 have hs := h.st1
 have hs0 := h.st0
 unfold preM
 split
 ·exact ⟨⟨h.b0, h.b1, h.bl, by show m.told.length <= _; omega, h.reg, h.pc, by show in32 (m.pc + 4); unfold in32; omega, by show 0 <= m.st + 1; omega, by show m.st + 1 <= _; omega⟩, rfl⟩
 ·exact ⟨⟨h.b0, h.b1, h.bl, by show m.told.length <= _; omega, h.reg, h.pc, h.pr, by show 0 <= m.st + 1; omega, by show m.st + 1 <= _; omega⟩, rfl⟩
theorem dest_in {m : Ma} {k : Nat} (h : Runs m k) (he : qt m m.pc = 0) : in32 (destM m) := by
 have hpc := qCf h he
 obtain ⟨b1, b2, b3, b4, b5, b6⟩ := fV_bd m m.pc
 have ht := qHk (fV m m.pc 0) (fV m m.pc 3) m.pc hpc.1 b5 b6
 unfold destM
 split
 ·exact h.pr
 ·split
  ·exact h.reg _
  ·unfold in32; omega
theorem qKZ {m : Ma} {k : Nat} (h : Runs m k) (he : qt m m.pc = 0) : Runs (qAU m) (k + 1) /\ (qAU m).st = m.st + 1 := by
 have hpc := qCf h he
 obtain ⟨b1, b2, b3, b4, b5, b6⟩ := fV_bd m m.pc
 have hst := h.st0
 have hst1 := h.st1
 have htl := h.tl
 have ht := qHk (fV m m.pc 0) (fV m m.pc 3) m.pc hpc.1 b5 b6
 have hd := dest_in h he
 obtain ⟨j1, j2, j3, j4, j5, j6⟩ := fV_bd (preM m) (m.pc + 2)
 have key : ∀ {M : Ma} (op n mm imm at' p : Int), M.base = m.base -> M.by' = m.by' -> M.told = m.told -> M.r = m.r -> in32 M.pr -> M.st = m.st + 1 -> -10000 <= imm -> imm <= 10000 -> in32 p -> Runs { qAB M op n mm imm at' with pc := p } (k + 1) /\ (qAB M op n mm imm at').st = m.st + 1 := by
  intro M op n mm imm at' p q1 q2 q3 q4 q5 q6 i0 i1 hp
  obtain ⟨e1, e2, e3, e4, e5⟩ := qCa M op n mm imm at'
  have t1 := qIm M op n mm imm at'
  rw [q3] at t1
  refine ⟨⟨by show 0 <= (qAB M op n mm imm at').base; rw [e1, q1]; exact h.b0, by show (qAB M op n mm imm at').base <= _; rw [e1, q1]; exact h.b1, by show (qAB M op n mm imm at').by'.length <= _; rw [e2, q2]; exact h.bl, by show (qAB M op n mm imm at').told.length <= _; omega, plain_in (by rw [q4]; exact h.reg) op n mm imm at' i0 i1, hp, by show in32 (qAB M op n mm imm at').pr; rw [e4]; exact q5, by show 0 <= (qAB M op n mm imm at').st; rw [e5, q6]; omega, by show (qAB M op n mm imm at').st <= _; rw [e5, q6]; omega⟩, by rw [e5, q6]⟩
 have pp : (preM m).base = m.base /\ (preM m).by' = m.by' /\ (preM m).told = m.told /\ (preM m).r = m.r := by
  unfold preM
  split <;> exact ⟨rfl, rfl, rfl, rfl⟩
 have hpre := runs_pre h he
 unfold qAU
 split
 ·exact ⟨⟨h.b0, h.b1, h.bl, by show m.told.length <= _; omega, h.reg, h.pc, h.pr, by show 0 <= m.st + 1; omega, by show m.st + 1 <= _; omega⟩, rfl⟩
 ·split
  ·exact key (M := { m with st := m.st + 1 }) (fV m m.pc 0) (fV m m.pc 1) (fV m m.pc 2) (fV m m.pc 3) m.pc (m.pc + 2) rfl rfl rfl rfl h.pr rfl b5 b6 (by unfold in32; omega)
  ·split
   ·refine ⟨⟨h.b0, h.b1, h.bl, by show m.told.length <= _; omega, h.reg, ?_, h.pr, by show 0 <= m.st + 1; omega, by show m.st + 1 <= _; omega⟩, rfl⟩
    dsimp only
    unfold in32
    split <;> omega
   ·exact key (M := preM m) (fV (preM m) (m.pc + 2) 0) (fV (preM m) (m.pc + 2) 1) (fV (preM m) (m.pc + 2) 2) (fV (preM m) (m.pc + 2) 3) (m.pc + 2) (destM m) pp.1 pp.2.1 pp.2.2.1 pp.2.2.2 hpre.1.pr hpre.2 j5 j6 hd
def runE : Nat -> Ma -> Int
 | 0, _ => 13
 | k + 1, m => if qAN m ≠ 0 then qAN m else if qA3 m = true then 0 else runE k (qAU m)
def runM : Nat -> Ma -> Ma
 | 0, _ => zeroM
 | k + 1, m => if qAN m ≠ 0 then zeroM else if qA3 m = true then qAU m else runM k (qAU m)
theorem qDJ (op : Int) (w : World) : Calls Tryz.prog 27 #[.int .i64 op] w fun e w' => e = .returned (.bool (qBo op)) /\ w = w' := by
 by_cases h1 : op = 2
 ·subst h1
  go_enter Tryz.func27, Tryz.ntmps27
  go_wp2
  go_ret
  exact ⟨rfl, rfl⟩
 ·have e1 : (op == 2) = false := by simp [h1]
  have HV : Hid (qBo op = (decide (17 <= op) && decide (op <= 22))) := by unfold Hid qBo; simp [h1]
  by_cases h2 : 17 <= op
  ·go_enter Tryz.func27, Tryz.ntmps27
   go_wp2
   go_ret
   exact ⟨by rw [HV.out]; simp [h2], rfl⟩
  ·have HV2 : Hid (qBo op = false) := by unfold Hid; rw [HV.out]; simp; omega
   go_enter Tryz.func27, Tryz.ntmps27
   go_wp2
   go_ret
   exact ⟨by rw [HV2.out]; rfl, rfl⟩
theorem w6432 (x : Int) : wrap64 (wrap32 x) = wrap32 x := by unfold wrap64 wrap32; omega
theorem w32_id {x : Int} (h0 : -2147483648 <= x) (h1 : x <= 2147483647) : wrap32 x = x := by unfold wrap32; omega
theorem qJ3 (n : Int) (w : World) : Calls Tryz.prog 58 #[.int .i64 n] w fun e w' => e = .returned (.int .i64 (wrap32 n)) /\ w = w' := by
 have := qBC n w
 rw [w6432] at this
 exact this.mono fun _ _ ⟨h1, h2⟩ => ⟨h1, h2.symm⟩
theorem qBn (a b : Int) (w : World) (h0 : -2147483648 <= a + b) (h1 : a + b <= 2147483647) : Calls Tryz.prog 30 #[.int .i64 a, .int .i64 b] w fun e w' => e = .returned (.int .i64 (a + b)) /\ w = w' := by
 have HS : Hid (∀ W, Calls Tryz.prog 58 #[.int .i64 (a + b)] W fun e w' => e = .returned (.int .i64 (a + b)) /\ W = w') := fun W => by
  have := qJ3 (a + b) W
  rw [w32_id h0 h1] at this
  exact this
 go_enter Tryz.func30, Tryz.ntmps30
 go_wp2_with (first | (go_at_call 58; refine (HS.out _).mono ?_; rintro e w' ⟨rfl, rfl⟩) | fail)
 go_ret
 exact ⟨rfl, rfl⟩
theorem qK1 (m : Ma) (ba : Option Addr) (bc : Nat) (sv : Value) (a size : Int) (w : World) (hs : size = 2 \/ size = 4) (hb0 : 0 <= m.base) (hb1 : m.base <= 1048576) (hl : m.by'.length <= 140737488355328) (ha0 : -4611686018427387904 <= a) (ha1 : a <= 4611686018427387904) :
  Calls Tryz.prog 47 #[.agg #[.int .i64 m.base, .slice ba m.by'.length bc, sv], .int .i64 a, .int .i64 size] w fun e w' => e = .returned (.tuple #[.int .i64 (a - m.base), .bool (hasB m a size)]) /\ Below w.heap.size w w' := by
 obtain ⟨X, hX⟩ : ∃ X, X = hasB m a size := ⟨_, rfl⟩
 rw [<- hX]
 unfold hasB at hX
 obtain ⟨V, hV⟩ : ∃ V, V = w.alloc (.cells #[.int .i64 m.base, .slice ba m.by'.length bc, sv] 34) := ⟨_, rfl⟩
 have hb : Below w.heap.size w V := by rw [hV]; exact qE _ _
 have k : V.heap[w.heap.size]? = some (.cells #[.int .i64 m.base, .slice ba m.by'.length bc, sv] 34 (0, 0)) := by rw [hV]; exact qK _ _ _
 have c0 := qA (i := 0) k rfl
 have c1 := qA (i := 1) k rfl
 have HV := Lib.hid hV.symm
 have HB : Hid (∀ nq, Below w.heap.size w (V.drewN nq)) := fun nq => hb.trans (Go.Joins.below_draws _ V nq)
 clear hV k hb
 generalize m.base = base at *
 generalize m.by'.length = len at *
 have hsz : ¬ size = 0 := by omega
 have hsn : (size == 0) = false := by simp [hsz]
 by_cases h1 : a.tmod size = 0
 ·have h1b : (a.tmod size == 0) = true := by simp [h1]
  have h1e : a % size = 0 := Int.emod_eq_zero_of_dvd (Int.dvd_of_tmod_eq_zero h1)
  by_cases h2 : base <= a
  ·have h2b : decide (base <= a) = true := by simp; omega
   have HX : Hid (X = decide (a - base <= (len : Int) - size)) := by
    unfold Hid; rw [hX]; simp only [h2, h1e, decide_true, Bool.true_and, decide_eq_decide]; omega
   clear hX
   go_enter Tryz.func47, Tryz.ntmps47
   go_wp2_with fail
   rw [HV.out]
   go_quiet (fail)
   go_wp2
   go_ret2
   exact ⟨by rw [HX.out]; rfl, HB.out _⟩
  ·have h2b : decide (base <= a) = false := by simp; omega
   have HX : Hid (X = false) := by
    unfold Hid; rw [hX]; simp [h2]
   clear hX
   go_enter Tryz.func47, Tryz.ntmps47
   go_wp2_with fail
   rw [HV.out]
   go_quiet (fail)
   go_wp2
   go_ret2
   exact ⟨by rw [HX.out]; rfl, HB.out _⟩
 ·have h1b : (a.tmod size == 0) = false := by simp [h1]
  have h1e : ¬ a % size = 0 := fun h => h1 (Int.tmod_eq_zero_of_dvd (Int.dvd_of_emod_eq_zero h))
  have HX : Hid (X = false) := by
   unfold Hid; rw [hX]; simp [h1e]
  clear hX
  go_enter Tryz.func47, Tryz.ntmps47
  go_wp2_with fail
  rw [HV.out]
  go_quiet (fail)
  go_wp2
  go_ret2
  exact ⟨by rw [HX.out]; rfl, HB.out _⟩
def qKr (op imm n m : Int) : Int :=
 if op = 3 then imm else if op = 4 then wrap32 (n + imm) else if op = 5 then m else if op = 6 then wrap32 (n + m) else if op = 7 then wrap32 (n - m)
 else if op = 8 then bits .and .i32 n m else if op = 9 then bits .or .i32 n m else if op = 10 then bits .xor .i32 n m else n
theorem qFF (op a b imm n m : Int) (w : World) (h : op = 1 \/ (3 <= op /\ op <= 10)) (hi0 : -10000 <= imm) (hi1 : imm <= 10000) (h0 : -2147483648 <= n) (h1 : n <= 2147483647) (h2 : -2147483648 <= m) (h3 : m <= 2147483647) :
  Calls Tryz.prog 57 #[.agg #[.int .i64 op, .int .i64 a, .int .i64 b, .int .i64 imm], .int .i64 n, .int .i64 m] w fun e w' => e = .returned (.int .i64 (qKr op imm n m)) /\ Below w.heap.size w w' := by
 have HS := Lib.hid qJ3
 have HA := Lib.hid (and_ext n m h0 h1 h2 h3)
 have HO := Lib.hid (or_ext n m h0 h1 h2 h3)
 have HX := Lib.hid (xor_ext n m h0 h1 h2 h3)
 have HB : Hid (∀ o, Below w.heap.size w (w.alloc o)) := fun o => qE w o
 obtain rfl | rfl | rfl | rfl | rfl | rfl | rfl | rfl | rfl : op = 1 \/ op = 3 \/ op = 4 \/ op = 5 \/ op = 6 \/ op = 7 \/ op = 8 \/ op = 9 \/ op = 10 := by omega
 all_goals
  go_enter Tryz.func57, Tryz.ntmps57
  go_wp2_with (first | (go_at_call 58; refine (HS.out _ _).mono ?_; rintro e w' ⟨rfl, rfl⟩) | fail)
  go_ret
  refine ⟨?_, HB.out _⟩
  first | rfl | (show Ending.returned (Value.int .i64 (bits .and .i64 n m)) = _; rw [HA.out]; rfl) | (show Ending.returned (Value.int .i64 (bits .or .i64 n m)) = _; rw [HO.out]; rfl) | (show Ending.returned (Value.int .i64 (bits .xor .i64 n m)) = _; rw [HX.out]; rfl)
theorem qDp (m : Ma) (ba : Option Addr) (bc : Nat) (sv : Value) (a : Int) (w : World) (hR : BRd w ba m.by') (hL : Laid w) (hb0 : 0 <= m.base) (hb1 : m.base <= 1048576) (hl : m.by'.length <= 140737488355328) (ha0 : -4611686018427387904 <= a) (ha1 : a <= 4611686018427387904) :
  Calls Tryz.prog 26 #[.agg #[.int .i64 m.base, .slice ba m.by'.length bc, sv], .int .i64 a] w fun e w' => e = .returned (.tuple #[.agg #[.int .i64 (fV m a 0), .int .i64 (fV m a 1), .int .i64 (fV m a 2), .int .i64 (fV m a 3)], .int .i64 (qt m a)]) /\ Below w.heap.size w w' := by
 obtain ⟨V, hV⟩ : ∃ V, V = (w.alloc (.cells #[.int .i64 m.base, .slice ba m.by'.length bc, sv] 34)).alloc (.cells #[.int .i64 0, .int .i64 0, .int .i64 0, .int .i64 0] 71) := ⟨_, rfl⟩
 have hV0 : Below w.heap.size w V := by rw [hV]; exact (qE _ _).trans ((qE _ _).mono (by simp))
 have hV1 : V.heap[w.heap.size]? = some (.cells #[.int .i64 m.base, .slice ba m.by'.length bc, sv] 34 (0, 0)) := by rw [hV, (qE _ _).block _ (by simp)]; exact qK _ _ _
 have hV2 : V.heap[w.heap.size + 1]? = some (.cells #[.int .i64 0, .int .i64 0, .int .i64 0, .int .i64 0] 71 (0, 0)) := by
  rw [hV]
  have := qK (w.alloc (.cells #[.int .i64 m.base, .slice ba m.by'.length bc, sv] 34)) #[.int .i64 0, .int .i64 0, .int .i64 0, .int .i64 0] 71
  simpa using this
 have HH := Lib.hid (qK1 m ba bc sv a 2 V (Or.inl rfl) hb0 hb1 hl ha0 ha1)
 have c0 := qA (i := 0) hV1 rfl
 have c1 := qA (i := 1) hV1 rfl
 have c2 := qA (i := 2) hV1 rfl
 have HV := Lib.hid hV.symm
 clear hV
 have HV0 := Lib.hid hV0
 have HV1 := Lib.hid hV1
 have HV2 := Lib.hid hV2
 have hlt1 := (Array.getElem?_eq_some_iff.1 hV1).1
 have hlt2 := (Array.getElem?_eq_some_iff.1 hV2).1
 clear hV0 hV1 hV2
 by_cases hh : hasB m a 2 = true
 ·have e0 : fV m a 0 = dV (qBW m a) 0 := by unfold fV; rw [if_pos hh]
  have e1 : fV m a 1 = dV (qBW m a) 1 := by unfold fV; rw [if_pos hh]
  have e2 : fV m a 2 = dV (qBW m a) 2 := by unfold fV; rw [if_pos hh]
  have e3 : fV m a 3 = dV (qBW m a) 3 := by unfold fV; rw [if_pos hh]
  have e4 : qt m a = decE (qBW m a) := by unfold qt; rw [if_pos hh]
  rw [e0, e1, e2, e3, e4]
  obtain ⟨q1, q2, q3⟩ := qHL hh
  have HG : Hid (∀ W, Below w.heap.size w W -> Calls Tryz.prog 49 #[.slice ba m.by'.length bc, .int .i64 (a - m.base), .int .i64 2] W fun e w' => e = .returned (.int .i64 (qBW m a)) /\ W = w') := fun W hb => (get_any ba m.by'.length bc (bsOf m.by') (a - m.base) 2 W (qKl _) (by unfold maxLen; omega) (fun h => by
   obtain ⟨b, off, e, _, hc⟩ := (hR.next hb) h
   exact ⟨b, off, e, hc⟩) (by omega) (by omega) (by omega) (by omega)).mono fun _ _ ⟨h1, h2⟩ => ⟨h1, h2.symm⟩
  have HD : Hid (∀ W, Below w.heap.size w W -> Calls Tryz.prog 48 #[.int .i64 (qBW m a)] W fun e w' => e = .returned (.tuple #[.agg #[.int .i64 (dV (qBW m a) 0), .int .i64 (dV (qBW m a) 1), .int .i64 (dV (qBW m a) 2), .int .i64 (dV (qBW m a) 3)], .int .i64 (decE (qBW m a))]) /\ Below W.heap.size W w') := fun W hb => by
   have := qJE (qBW m a) W (hL.below hb hL.sz)
   rw [(dV_all (qBW m a)).1] at this
   exact this
  rw [hh] at HH
  clear hh e0 e1 e2 e3 e4 hR hL q1 q2 q3
  generalize qBW m a = x at *
  generalize decE x = ee at *
  generalize dV x 0 = d0 at *
  generalize dV x 1 = d1 at *
  generalize dV x 2 = d2 at *
  generalize dV x 3 = d3 at *
  go_enter Tryz.func26, Tryz.ntmps26
  go_upto_region 1 with fail
  rw [HV.out]
  go_wp2_with (first | (go_at_call 47; refine HH.out.mono ?_; rintro e W1 ⟨rfl, hb1⟩; have k1 := (hb1.block _ hlt1).trans HV1.out; have K2 := Lib.hid ((hb1.block _ hlt2).trans HV2.out); have c20 : W1.cell? ⟨w.heap.size, 1, none⟩ = some (.slice ba m.by'.length bc) := qA (i := 1) k1 rfl; have HB1 := Lib.hid (HV0.out.trans (hb1.mono HV0.out.size)); clear hb1 k1) | (go_at_call 49; refine (HG.out _ HB1.out).mono ?_; rintro e w' ⟨rfl, rfl⟩) | (go_at_call 48; refine (HD.out _ HB1.out).mono ?_; rintro e W2 ⟨rfl, hb2⟩; have kk := (hb2.block _ (Array.getElem?_eq_some_iff.1 K2.out).1).trans K2.out; have HB2 := Lib.hid (HB1.out.trans (hb2.mono HB1.out.size)); have z0 := qD (i := 0) kk; have z1 := qD (i := 1) kk; have z2 := qD (i := 2) kk; have z3 := qD (i := 3) kk; have y0 : W2.cell? ⟨w.heap.size + 1, 0, none⟩ = some (.int .i64 0) := qA (i := 0) kk rfl; have y1 : W2.cell? ⟨w.heap.size + 1, 1, none⟩ = some (.int .i64 0) := qA (i := 1) kk rfl; have y2 : W2.cell? ⟨w.heap.size + 1, 2, none⟩ = some (.int .i64 0) := qA (i := 2) kk rfl; have y3 : W2.cell? ⟨w.heap.size + 1, 3, none⟩ = some (.int .i64 0) := qA (i := 3) kk rfl; have hlt := (Array.getElem?_eq_some_iff.1 kk).1; clear hb2 kk) | fail)
  refine bodyPost_ret (v := .tuple #[.agg #[.int .i64 d0, .int .i64 d1, .int .i64 d2, .int .i64 d3], .int .i64 ee]) (by simp [results, Tryz.results26, go_sem, y0, y1, y2, y3]) rfl ⟨rfl, four HB2.out (Nat.le_succ _) _ _ _ _⟩
 ·have hh' : hasB m a 2 = false := by simpa using hh
  have e : ∀ i, fV m a i = 0 := fun i => by unfold fV; rw [if_neg hh]
  have e4 : qt m a = 6 := by unfold qt; rw [if_neg hh]
  rw [e, e, e, e, e4]
  rw [hh'] at HH
  clear hh hh' e e4 hR hL
  go_enter Tryz.func26, Tryz.ntmps26
  go_upto_region 1 with fail
  rw [HV.out]
  go_wp2_with (first | (go_at_call 47; refine HH.out.mono ?_; rintro e W2 ⟨rfl, hb1⟩; have kk := (hb1.block _ hlt2).trans HV2.out; have z0 := qD (i := 0) kk; have z1 := qD (i := 1) kk; have z2 := qD (i := 2) kk; have z3 := qD (i := 3) kk; have y0 : W2.cell? ⟨w.heap.size + 1, 0, none⟩ = some (.int .i64 0) := qA (i := 0) kk rfl; have y1 : W2.cell? ⟨w.heap.size + 1, 1, none⟩ = some (.int .i64 0) := qA (i := 1) kk rfl; have y2 : W2.cell? ⟨w.heap.size + 1, 2, none⟩ = some (.int .i64 0) := qA (i := 2) kk rfl; have y3 : W2.cell? ⟨w.heap.size + 1, 3, none⟩ = some (.int .i64 0) := qA (i := 3) kk rfl; have hlt := (Array.getElem?_eq_some_iff.1 kk).1; have HB1 := Lib.hid (HV0.out.trans (hb1.mono HV0.out.size)); clear hb1 kk) | fail)
  refine bodyPost_ret (v := .tuple #[.agg #[.int .i64 0, .int .i64 0, .int .i64 0, .int .i64 0], .int .i64 6]) (by simp [results, Tryz.results26, go_sem, y0, y1, y2, y3]) rfl ⟨rfl, four HB1.out (Nat.le_succ _) _ _ _ _⟩
def qA7 (l : List UInt8) : List Value := l.map fun c => .int .u8 (c.toNat : Int)
def qAk (l : List Int) : List Value := l.map fun c => .int .i64 c
theorem qJG (l : List UInt8) : (qA7 l).length = l.length := by simp [qA7]
theorem qEi (l : List Int) : (qAk l).length = l.length * 1 := by simp [qAk]
theorem qJP (l : List UInt8) : ∀ v ∈ qA7 l, v.oneCell' = true := by
 intro v hv
 obtain ⟨c, _, rfl⟩ := List.mem_map.1 hv
 rfl
theorem qI8 (l : List Int) : ∀ v ∈ qAk l, v.oneCell' = true := by
 intro v hv
 obtain ⟨c, _, rfl⟩ := List.mem_map.1 hv
 rfl
theorem qAS (b o j : Nat) : (⟨b, o, none⟩ : Addr).add j = ⟨b, o + j, none⟩ := by unfold Addr.add; split <;> simp_all
structure Kept (K g gb : Nat) (W W' : World) : Prop where
 os : W'.os = W.os
 tape : W'.tape = W.tape
 output : W'.output = W.output
 size : W.heap.size <= W'.heap.size
 block : ∀ q, q < K -> q ≠ g -> q ≠ gb -> W'.heap[q]? = W.heap[q]?
theorem Kept.trans {K g gb : Nat} {a b c : World} (h : Kept K g gb a b) (k : Kept K g gb b c) : Kept K g gb a c :=
 ⟨k.os.trans h.os, k.tape.trans h.tape, k.output.trans h.output, Nat.le_trans h.size k.size, fun q h1 h2 h3 => (k.block q h1 h2 h3).trans (h.block q h1 h2 h3)⟩
theorem Kept.of {K g gb B : Nat} {a b : World} (h : Below B a b) (hB : K <= B) : Kept K g gb a b := ⟨h.os, h.tape, h.output, h.size, fun q hq _ _ => h.block q (by omega)⟩
theorem Kept.below {K g gb B : Nat} {a b : World} (h : Kept K g gb a b) (h1 : B <= K) (h2 : B <= g) (h3 : B <= gb) : Below B a b := ⟨h.os, h.tape, h.output, h.size, fun q hq => h.block q (by omega) (by omega) (by omega)⟩
theorem Kept.cell {K gb : Nat} {a : World} (p : Addr) (v : Value) : Kept K p.block gb a (a.setCell p v) :=
 ⟨rfl, rfl, rfl, by simp [World.setCell], fun q _ h _ => Below.heap_setCell _ _ _ q h⟩
theorem Kept.grown {K g gb : Nat} {a b : World} {r : Option Nat} (h : a.grownBy b r) (hK : K <= a.heap.size) (hr : ∀ k, r = some k -> K <= k) : Kept K g gb a b :=
 ⟨h.os, h.tape, h.output, h.size, fun q hq _ _ => h.block q (by omega) (by intro e; have := hr q e.symm; omega)⟩
structure MR (K g : Nat) (m : Ma) (gb bc : Nat) (sv : Value) (ta : Option Addr) (tc : Nat) (W : World) : Prop where
 b1 : W.heap[g]? = some (.cells (mC m (some ⟨gb, 0, none⟩) bc sv ta tc) 41 (0, 0))
 bb : W.heap[gb]? = some (.cells (qA7 m.by').toArray 5 (0, 0))
 tt : W.ownsRow K 3 1 (.slice ta m.told.length tc) m.told.length (qAk m.told)
 la : Laid W
 kz : K <= W.heap.size
 k2 : max 1 4 < K
 g2 : max 1 4 < g
 gb2 : max 1 4 < gb
theorem MR.ne {K g : Nat} {m : Ma} {gb bc : Nat} {sv : Value} {ta : Option Addr} {tc : Nat} {W : World} (h : MR K g m gb bc sv ta tc W) : g ≠ gb := by
 intro e
 have h1 := h.b1
 rw [e, h.bb] at h1
 injection h1 with h1
 injection h1 with _ h2
 exact absurd h2 (by decide)
theorem qEA {W : World} {base : Nat} {v : Value} {n : Nat} {xs : List Value} (h : W.ownsRow base 3 1 v n xs) {b : Nat} {c : Array Value} {t : TypeId} {f : Nat × Nat} (hb : W.heap[b]? = some (.cells c t f)) (ht : t ≠ 3) : v.ownBlock = none \/ v.ownBlock ≠ some b := by
 rcases h.2 with ⟨rfl, _⟩ | ⟨g, cap, cur, rfl, _, hg, _⟩
 ·exact Or.inl rfl
 ·refine Or.inr fun e => ?_
  simp only [Value.ownBlock, Option.some.injEq] at e
  rw [<- e, hg] at hb
  injection hb with hb
  injection hb with _ h2
  exact ht h2.symm
theorem qEW (W : World) (p : Addr) (v : Value) : W.grownBy (W.setCell p v) (some p.block) :=
 ⟨rfl, rfl, rfl, by simp [World.setCell], fun k _ hk => Below.heap_setCell _ _ _ k (fun e => hk (by rw [e]))⟩
theorem qLS (W : World) (g : Nat) (cs : Array Value) : W.grownBy (W.setRow g cs) (some g) :=
 ⟨rfl, rfl, rfl, by simp [World.setRow], fun k _ hk => setRow_other W g k cs (fun e => hk (by rw [e]))⟩
theorem qF7 {K g gb : Nat} {a b : World} (h : Laid a) (hk : Kept K g gb a b) (h1 : max 1 4 < K) (h2 : max 1 4 < g) (h3 : max 1 4 < gb) : Laid b :=
 h.below (hk.below (B := max 1 4 + 1) h1 h2 h3) (by omega)
section
variable {K g : Nat} {m : Ma} {gb bc : Nat} {sv : Value} {ta : Option Addr} {tc : Nat} {W : World}
theorem MR.next (h : MR K g m gb bc sv ta tc W) {W' : World} (hb : Below W.heap.size W W') : MR K g m gb bc sv ta tc W' :=
 ⟨(hb.block _ (Array.getElem?_eq_some_iff.1 h.b1).1).trans h.b1, (hb.block _ (Array.getElem?_eq_some_iff.1 h.bb).1).trans h.bb, h.tt.kept (ogbelow none hb (Nat.le_refl _)) (by cases (Value.slice ta m.told.length tc).ownBlock <;> simp), h.la.below hb h.la.sz, Nat.le_trans h.kz hb.size, h.k2, h.g2, h.gb2⟩
theorem MR.kn (h : MR K g m gb bc sv ta tc W) {W' : World} (hb : Below W.heap.size W W') : Kept K g gb W W' := Kept.of hb h.kz
theorem MR.set (h : MR K g m gb bc sv ta tc W) (k : Nat) (v : Value) (m' : Ma) (hm : (mC m (some ⟨gb, 0, none⟩) bc sv ta tc).setIfInBounds k v = mC m' (some ⟨gb, 0, none⟩) bc sv ta tc) (h1 : m'.by' = m.by') (h2 : m'.told = m.told) : MR K g m' gb bc sv ta tc (W.setCell ⟨g, k, none⟩ v) := by
 refine ⟨?_, ?_, ?_, ?_, ?_, h.k2, h.g2, h.gb2⟩
 ·rw [_root_.Go.heap_setCell_same W g k _ 41 _ h.b1, hm]
 ·rw [Below.heap_setCell _ _ _ _ (by exact fun e => h.ne e.symm), h1]
  exact h.bb
 ·rw [h2]
  exact h.tt.kept (qEW W ⟨g, k, none⟩ v) (qEA h.tt h.b1 (by decide))
 ·exact qF7 h.la (Kept.cell (K := K) (gb := gb) ⟨g, k, none⟩ v) h.k2 h.g2 h.gb2
 ·simpa [World.setCell] using h.kz
theorem MR.reg (h : MR K g m gb bc sv ta tc W) (k : Nat) (hk : k < 16) (v : Int) : MR K g (setR m k v) gb bc sv ta tc (W.setCell ⟨g, k, none⟩ (.int .i64 v)) := h.set k _ _ (mC_set m _ bc sv ta tc k hk v) rfl rfl
theorem MR.setpc (h : MR K g m gb bc sv ta tc W) (v : Int) : MR K g { m with pc := v } gb bc sv ta tc (W.setCell ⟨g, 17, none⟩ (.int .i64 v)) := h.set 17 _ _ rfl rfl rfl
theorem MR.setst (h : MR K g m gb bc sv ta tc W) (v : Int) : MR K g { m with st := v } gb bc sv ta tc (W.setCell ⟨g, 23, none⟩ (.int .i64 v)) := h.set 23 _ _ rfl rfl rfl
theorem MR.brd (h : MR K g m gb bc sv ta tc W) : BRd W (some ⟨gb, 0, none⟩) m.by' := fun _ => by
 refine ⟨gb, 0, rfl, (Array.getElem?_eq_some_iff.1 h.bb).1, fun i hi => ?_⟩
 rw [Nat.zero_add]
 refine qA h.bb ?_
 simp [qA7, bsOf, hi, List.getD]
theorem MR.trd (h : MR K g m gb bc sv ta tc W) : TRd W ta m.told := fun h0 => by
 rcases h.tt.2 with ⟨h1, _⟩ | ⟨q, cap, cur, h1, _, hq, _⟩
 ·simp only [Value.slice.injEq] at h1
  omega
 ·simp only [Value.slice.injEq] at h1
  obtain ⟨rfl, _, _⟩ := h1
  refine ⟨q, 0, rfl, (Array.getElem?_eq_some_iff.1 hq).1, fun i hi => ?_⟩
  have := h.tt.cells (g := q) rfl i (.int .i64 (m.told.getD i 0)) (by simp [qAk, hi, List.getD])
  rw [qAS] at this
  exact this
theorem MR.rn (h : MR K g m gb bc sv ta tc W) (k : Nat) (hk : k < 16) : W.cell? ⟨g, k, none⟩ = some (.int .i64 (m.r k)) := qA (i := k) h.b1 (mC_reg m _ bc sv ta tc k hk)
theorem MR.cells (h : MR K g m gb bc sv ta tc W) : W.cell? ⟨g, 16, none⟩ = some (.bool m.t) /\ W.cell? ⟨g, 17, none⟩ = some (.int .i64 m.pc) /\ W.cell? ⟨g, 18, none⟩ = some (.int .i64 m.pr) /\ W.cell? ⟨g, 19, none⟩ = some (.int .i64 m.base) /\ W.cell? ⟨g, 20, none⟩ = some (.slice (some ⟨gb, 0, none⟩) m.by'.length bc) /\ W.cell? ⟨g, 21, none⟩ = some sv /\ W.cell? ⟨g, 22, none⟩ = some (.slice ta m.told.length tc) /\ W.cell? ⟨g, 23, none⟩ = some (.int .i64 m.st) :=
 ⟨qA (i := 16) h.b1 rfl, qA (i := 17) h.b1 rfl, qA (i := 18) h.b1 rfl, qA (i := 19) h.b1 rfl, qA (i := 20) h.b1 rfl, qA (i := 21) h.b1 rfl, qA (i := 22) h.b1 rfl, qA (i := 23) h.b1 rfl⟩
theorem MR.fz (h : MR K g m gb bc sv ta tc W) (k : Nat) : W.frozen? ⟨g, k, none⟩ = false := qD h.b1
theorem MR.lt (h : MR K g m gb bc sv ta tc W) : g < W.heap.size := (Array.getElem?_eq_some_iff.1 h.b1).1
end
theorem Kept.drew {K g gb : Nat} {a b : World} (h : Kept K g gb a b) : Kept K g gb a b.drew := h.trans (Kept.of ((Below.refl K b).drew) (Nat.le_refl _))
def PP (K' K g gb bc : Nat) (sv : Value) (m' : Ma) (W W' : World) : Prop := Kept K' g gb W W' /\ ∃ ta' tc', MR K g m' gb bc sv ta' tc' W'
theorem PP.of {K' K g gb bc : Nat} {sv : Value} {m : Ma} {ta : Option Addr} {tc : Nat} {W W' : World} (h : MR K g m gb bc sv ta tc W) (hb : Below W.heap.size W W') (hK : K' <= W.heap.size) : PP K' K g gb bc sv m W W' := ⟨Kept.of hb hK, ta, tc, h.next hb⟩
theorem PP.reg {K' K g gb bc : Nat} {sv : Value} {m : Ma} {W W' : World} (h : PP K' K g gb bc sv m W W') (k : Nat) (hk : k < 16) (v : Int) : PP K' K g gb bc sv (setR m k v) W (W'.setCell ⟨g, k, none⟩ (.int .i64 v)) := by
 obtain ⟨h1, ta, tc, h2⟩ := h
 exact ⟨h1.trans (Kept.cell ⟨g, k, none⟩ _), ta, tc, h2.reg k hk v⟩
theorem infoI : (Tryz.prog.info? 3).map (fun i => (i.zero, i.size, i.bytes)) = some (some (.int .i64 0), 1, 8) := by kernel_rfl
theorem row_form {W : World} {base : Nat} {v : Value} {n : Nat} {xs : List Value} (h : W.ownsRow base 3 1 v n xs) : ∃ ad cap, v = .slice ad n cap := by
 rcases h.2 with ⟨rfl, h0⟩ | ⟨g, cap, cur, rfl, _⟩
 ·exact ⟨none, 0, by rw [h0]⟩
 ·exact ⟨_, _, rfl⟩
theorem MR.app {K g : Nat} {m : Ma} {gb bc : Nat} {sv : Value} {ta : Option Addr} {tc : Nat} {W : World} (h : MR K g m gb bc sv ta tc W) (b : Nat) (x : Int) (hb : W.heap[b]? = some (.cells #[.int .i64 x] 3 (0, 0))) (hl : m.told.length <= 1000000000) :
  ∃ ta' tc' W', (∀ ty, (Builtin.append_ #[22, 22] ty #[.slice ta m.told.length tc, .slice (some ⟨b, 0, none⟩) 1 1]).run Tryz.prog W = .ok (.slice ta' (m.told.length + 1) tc') W') /\ W.grownBy W' (Value.slice ta m.told.length tc).ownBlock /\ W'.cell? ⟨g, 22, none⟩ = some (.slice ta m.told.length tc) /\ W'.frozen? ⟨g, 22, none⟩ = false /\
   Kept K g gb W (W'.setCell ⟨g, 22, none⟩ (.slice ta' (m.told.length + 1) tc')) /\ MR K g { m with told := m.told ++ [x] } gb bc sv ta' tc' (W'.setCell ⟨g, 22, none⟩ (.slice ta' (m.told.length + 1) tc')) := by
 obtain ⟨i, hi, hz0, hz1, hz2⟩ := info_parts infoI
 have key := fun ty => run_append_own (P := Tryz.prog) W K 22 ty 3 i _ 1 8 Tryz.underlying22 hi hz0 hz1 hz2 rfl (by decide) (.slice ta m.told.length tc) m.told.length (qAk m.told) h.tt ⟨b, 0, none⟩ 1 1 [.int .i64 x] rfl (fun j u hj => by
  have hj0 : j = 0 := by
   have := (List.getElem?_eq_some_iff.1 hj).1
   simpa using this
  subst hj0
  rw [qAS]
  refine qA (i := 0) hb ?_
  simpa using hj) (by simp [Value.oneCell']) (by unfold maxLen; omega) (by omega) h.kz
 obtain ⟨v', W', hrun, hown, hgr, _⟩ := key 0
 obtain ⟨ta', tc', rfl⟩ := row_form hown
 have hrun' : ∀ ty, (Builtin.append_ #[22, 22] ty #[.slice ta m.told.length tc, .slice (some ⟨b, 0, none⟩) 1 1]).run Tryz.prog W = .ok (.slice ta' (m.told.length + 1) tc') W' := fun ty => by
  have e : (Builtin.append_ #[22, 22] ty #[.slice ta m.told.length tc, .slice (some ⟨b, 0, none⟩) 1 1]).run Tryz.prog W = (Builtin.append_ #[22, 22] 0 #[.slice ta m.told.length tc, .slice (some ⟨b, 0, none⟩) 1 1]).run Tryz.prog W := rfl
  rw [e, hrun]
 have hne : ∀ {q : Nat} {c : Array Value} {t : TypeId} {f : Nat × Nat}, W.heap[q]? = some (.cells c t f) -> t ≠ 3 -> W'.heap[q]? = some (.cells c t f) := fun {q c t f} hq ht => by
  rw [hgr.block q (Array.getElem?_eq_some_iff.1 hq).1 (by
   rcases qEA h.tt hq ht with e | e
   ·rw [e]; simp
   ·exact fun e' => e e'.symm)]
  exact hq
 have g1 := hne h.b1 (by decide)
 have gb1 := hne h.bb (by decide)
 have hkept : Kept K g gb W W' := Kept.grown hgr h.kz (fun k hk => (h.tt.lt k hk).1)
 refine ⟨ta', tc', W', hrun', hgr, qA (i := 22) g1 rfl, qD g1, hkept.trans (Kept.cell ⟨g, 22, none⟩ _), ?_⟩
 refine ⟨?_, ?_, ?_, ?_, ?_, h.k2, h.g2, h.gb2⟩
 ·rw [_root_.Go.heap_setCell_same W' g 22 _ 41 _ g1]
  have e : (m.told ++ [x]).length = m.told.length + 1 := by simp
  unfold mC
  simp only [e]
  rfl
 ·rw [Below.heap_setCell _ _ _ _ (by exact fun e => h.ne e.symm)]
  exact gb1
 ·have e : (m.told ++ [x]).length = m.told.length + 1 := by simp
  have e2 : qAk (m.told ++ [x]) = qAk m.told ++ [.int .i64 x] := by simp [qAk]
  show World.ownsRow _ K 3 1 (.slice ta' (m.told ++ [x]).length tc') (m.told ++ [x]).length (qAk (m.told ++ [x]))
  rw [e, e2]
  exact hown.kept (qEW W' ⟨g, 22, none⟩ _) (qEA hown g1 (by decide))
 ·exact qF7 h.la (hkept.trans (Kept.cell ⟨g, 22, none⟩ _)) h.k2 h.g2 h.gb2
 ·have := h.kz
  have := hgr.size
  simp [World.setCell]
  omega
end Go.Proofs.YtgjmbjahgcndnaaGreatDoor.Si
