/- The document's own Plain: what its box holds; its inner function. Numbers of 32 bits within numbers of 64: what the bits of two of them make. -/
import Derived.Test.YtabepbaldadmgaaDoorSmB
import Derived.Laws.Tables
namespace Go.Proofs.YtabepbaldadmgaaDoor
open Go.RowKit Isa

/-- A register is another number. -/
def setR (m : Ma) (n : Nat) (v : Int) : Ma := { m with r := fun k => if k = n then v else m.r k }
theorem mC_reg (m : Ma) (ba : Option Addr) (bc : Nat) (sv : Value) (ta : Option Addr) (tc : Nat) (n : Nat) (hn : n < 16) : (mC m ba bc sv ta tc)[n]? = some (.int .i64 (m.r n)) := by
  match n, hn with
  | 0, _ | 1, _ | 2, _ | 3, _ | 4, _ | 5, _ | 6, _ | 7, _ | 8, _ | 9, _ | 10, _ | 11, _ | 12, _ | 13, _ | 14, _ | 15, _ => rfl
  | n + 16, h => exact absurd h (by omega)
theorem mC_set (m : Ma) (ba : Option Addr) (bc : Nat) (sv : Value) (ta : Option Addr) (tc : Nat) (n : Nat) (hn : n < 16) (v : Int) : (mC m ba bc sv ta tc).setIfInBounds n (.int .i64 v) = mC (setR m n v) ba bc sv ta tc := by
  match n, hn with
  | 0, _ | 1, _ | 2, _ | 3, _ | 4, _ | 5, _ | 6, _ | 7, _ | 8, _ | 9, _ | 10, _ | 11, _ | 12, _ | 13, _ | 14, _ | 15, _ => rfl
  | n + 16, h => exact absurd h (by omega)
theorem mC_t (m : Ma) (ba : Option Addr) (bc : Nat) (sv : Value) (ta : Option Addr) (tc : Nat) (v : Bool) : (mC m ba bc sv ta tc).setIfInBounds 16 (.bool v) = mC { m with t := v } ba bc sv ta tc := rfl

theorem mOne (m : Ma) (ba : Option Addr) (bc : Nat) (s0 : Option Addr) (s1 s2 : Nat) (ta : Option Addr) (tc : Nat) : ∀ v ∈ (mC m ba bc (.slice s0 s1 s2) ta tc).toList, v.oneCell' = true := by
  intro v hv
  simp [mC] at hv
  rcases hv with rfl | rfl | rfl | rfl | rfl | rfl | rfl | rfl | rfl | rfl | rfl | rfl | rfl | rfl | rfl | rfl | rfl | rfl | rfl | rfl | rfl | rfl | rfl | rfl <;> rfl

def zeroM : Ma := ⟨fun _ => 0, false, 0, 0, 0, [], [], 0⟩

/-- The function set: a register of the box at g. -/
theorem set_any (m : Ma) (ba : Option Addr) (bc : Nat) (sv : Value) (ta : Option Addr) (tc : Nat) (g q : Nat) (op n mm imm v : Int) (W : World) (hg : W.heap[g]? = some (.cells (mC m ba bc sv ta tc) 29 (0, 0))) (hq : W.heap[q]? = some (.cells #[.int .i64 op, .int .i64 n, .int .i64 mm, .int .i64 imm] 45 (0, 0))) (hn0 : 0 ≤ n) (hn1 : n ≤ 15) (hv0 : -2147483648 ≤ v) (hv1 : v ≤ 2147483647) :
    Calls Tryd.prog 38 #[.int .i32 v, .pointer (some ⟨g, 0, none⟩), .pointer (some ⟨q, 0, none⟩)] W fun e W' => e = .returned (.tuple #[]) ∧ W' = W.setCell ⟨g, n.toNat, none⟩ (.int .i64 v) := by
  have c1 := cell_of_block (i := 1) hq rfl
  have c2 := cell_of_block (i := n.toNat) hg (mC_reg m ba bc sv ta tc n.toNat (by omega))
  have f2 := blk_froz (i := n.toNat) hg
  have hn2 : n < 16 := by omega
  go_enter Tryd.func38, Tryd.ntmps38
  go_wp2
  exact bodyPost_end (v := .tuple #[]) (by simp [results, Tryd.results38, go_sem]) rfl ⟨rfl, rfl⟩

/-- A machine and an error as results. -/
theorem res_m {T : Array Value} {W : World} {g : Nat} {e : Int} {m : Ma} {ba : Option Addr} {bc : Nat} {sv : Value} {ta : Option Addr} {tc : Nat} (h6 : T.getD 6 undef = .pointer (some ⟨g, 0, none⟩)) (h7 : T.getD 7 undef = .int .i64 e) (hg : W.heap[g]? = some (.cells (mC m ba bc sv ta tc) 29 (0, 0))) :
    (results Tryd.f25 T).run Tryd.prog W = .ok (.tuple #[.agg (mC m ba bc sv ta tc), .int .i64 e]) W := by
  have hl := run_loadVar_row (P := Tryd.prog) W g 29 29 (mC m ba bc sv ta tc) (0, 0) _ hg Tryd.underlying29 rfl (mSize _ _ _ _ _ _)
  have h6' : T[6]?.getD undef = .pointer (some ⟨g, 0, none⟩) := by simpa using h6
  have h7' : T[7]?.getD undef = .int .i64 e := by simpa using h7
  simp [results, Tryd.results25, h6', h7', asAddr, hl]
theorem mAll (m : Ma) (ba : Option Addr) (bc : Nat) (s0 : Option Addr) (s1 s2 : Nat) (ta : Option Addr) (tc : Nat) : (mC m ba bc (.slice s0 s1 s2) ta tc).all (·.oneCell') = true := by kernel_rfl

/-- The three boxes that Plain begins with. -/
theorem pl_start (w : World) (m : Ma) (ba : Option Addr) (bc : Nat) (sv : Value) (ta : Option Addr) (tc : Nat) (op n mm imm : Int) (V : World) (hV : V = ((w.alloc (.cells (mC m ba bc sv ta tc) 29)).alloc (.cells #[.int .i64 op, .int .i64 n, .int .i64 mm, .int .i64 imm] 45)).alloc (.cells (mC zeroM none 0 (.slice none 0 0) none 0) 29)) :
    Below w.heap.size w V ∧ V.heap[w.heap.size]? = some (.cells (mC m ba bc sv ta tc) 29 (0, 0)) ∧ V.heap[w.heap.size + 1]? = some (.cells #[.int .i64 op, .int .i64 n, .int .i64 mm, .int .i64 imm] 45 (0, 0)) ∧ V.heap[w.heap.size + 2]? = some (.cells (mC zeroM none 0 (.slice none 0 0) none 0) 29 (0, 0)) := by
  subst hV
  refine ⟨((oalloc _ _).trans ((oalloc _ _).mono (by simp))).trans ((oalloc _ _).mono (by simp; omega)), ?_, ?_, ?_⟩
  · rw [(oalloc _ _).block _ (by simp; omega), (oalloc _ _).block _ (by simp)]
    exact blk_new _ _ _
  · rw [(oalloc _ _).block _ (by simp)]
    have := blk_new (w.alloc (.cells (mC m ba bc sv ta tc) 29)) #[.int .i64 op, .int .i64 n, .int .i64 mm, .int .i64 imm] 45
    simpa using this
  · have := blk_new ((w.alloc (.cells (mC m ba bc sv ta tc) 29)).alloc (.cells #[.int .i64 op, .int .i64 n, .int .i64 mm, .int .i64 imm] 45)) (mC zeroM none 0 (.slice none 0 0) none 0) 29
    simpa using this

end Go.Proofs.YtabepbaldadmgaaDoor

namespace Go.Proofs.YtabepbaldadmgaaDoor
open Go.RowKit Isa

theorem wrap64_toInt (b : BitVec 64) : IntKind.i64.wrap (b.toNat : Int) = b.toInt := by
  rw [IntKind.wrap_i64, BitVec.toInt_eq_toNat_cond]
  have := b.isLt
  split <;> omega
theorem wrap32_toInt (b : BitVec 32) : IntKind.i32.wrap (b.toNat : Int) = b.toInt := by
  have e : ∀ n : Int, IntKind.i32.wrap n = (n + 2147483648) % 4294967296 - 2147483648 := fun n => by simp [IntKind.wrap, IntKind.bits, IntKind.signed]; omega
  rw [e, BitVec.toInt_eq_toNat_cond]
  have := b.isLt
  split <;> omega
theorem ofInt_ext (x : Int) (h0 : -2147483648 ≤ x) (h1 : x ≤ 2147483647) : BitVec.ofInt 64 x = (BitVec.ofInt 32 x).signExtend 64 := by
  apply BitVec.eq_of_toInt_eq
  rw [BitVec.toInt_signExtend_of_le (by decide), BitVec.toInt_ofInt, BitVec.toInt_ofInt]
  simp only [Int.bmod]
  omega
theorem and_ext (x y : Int) (h0 : -2147483648 ≤ x) (h1 : x ≤ 2147483647) (h2 : -2147483648 ≤ y) (h3 : y ≤ 2147483647) : bits .and .i64 x y = bits .and .i32 x y := by
  show IntKind.i64.wrap ((BitVec.ofInt 64 x &&& BitVec.ofInt 64 y).toNat : Int) = IntKind.i32.wrap ((BitVec.ofInt 32 x &&& BitVec.ofInt 32 y).toNat : Int)
  rw [wrap64_toInt, wrap32_toInt, ofInt_ext x h0 h1, ofInt_ext y h2 h3, ← BitVec.signExtend_and, BitVec.toInt_signExtend_of_le (by decide)]
theorem or_ext (x y : Int) (h0 : -2147483648 ≤ x) (h1 : x ≤ 2147483647) (h2 : -2147483648 ≤ y) (h3 : y ≤ 2147483647) : bits .or .i64 x y = bits .or .i32 x y := by
  show IntKind.i64.wrap ((BitVec.ofInt 64 x ||| BitVec.ofInt 64 y).toNat : Int) = IntKind.i32.wrap ((BitVec.ofInt 32 x ||| BitVec.ofInt 32 y).toNat : Int)
  rw [wrap64_toInt, wrap32_toInt, ofInt_ext x h0 h1, ofInt_ext y h2 h3, ← BitVec.signExtend_or, BitVec.toInt_signExtend_of_le (by decide)]
theorem xor_ext (x y : Int) (h0 : -2147483648 ≤ x) (h1 : x ≤ 2147483647) (h2 : -2147483648 ≤ y) (h3 : y ≤ 2147483647) : bits .xor .i64 x y = bits .xor .i32 x y := by
  show IntKind.i64.wrap ((BitVec.ofInt 64 x ^^^ BitVec.ofInt 64 y).toNat : Int) = IntKind.i32.wrap ((BitVec.ofInt 32 x ^^^ BitVec.ofInt 32 y).toNat : Int)
  rw [wrap64_toInt, wrap32_toInt, ofInt_ext x h0 h1, ofInt_ext y h2 h3, ← BitVec.signExtend_xor, BitVec.toInt_signExtend_of_le (by decide)]
theorem and_one (x : Int) : bits .and .i64 x 1 = x % 2 := by
  show IntKind.i64.wrap ((BitVec.ofInt 64 x &&& BitVec.ofInt 64 1).toNat : Int) = _
  have e : (BitVec.ofInt 64 x &&& BitVec.ofInt 64 1).toNat = (x % 18446744073709551616).toNat % 2 := by
    rw [BitVec.toNat_and, BitVec.toNat_ofInt]
    show (x % 18446744073709551616).toNat &&& 1 = _
    rw [Nat.and_one_is_mod]
  rw [e, IntKind.wrap_i64]
  omega

end Go.Proofs.YtabepbaldadmgaaDoor
