/- The document's own Fetch and New. The document's own Plain: what its box holds; its inner function. Numbers of 32 bits within numbers of 64: what the bits of two of them make. -/
import Derived.Test.YtabepbaldadmgaaDoorPut9
import Derived.Laws.Rows
import Derived.Laws.Tables
namespace Go.Proofs.YtabepbaldadmgaaDoor
open Go.RowKit Isa

def DecOk : Prop := ∀ (x : Int) (W : World), Calls Tryd.prog 18 #[.int .i64 x] W fun e w' => e = .returned (.tuple #[decV x, .int .i64 (decE x)]) ∧ Below W.heap.size W w'

theorem blk_froz {w : World} {b i : Nat} {c : Array Value} {t : TypeId} (h : w.heap[b]? = some (.cells c t (0, 0))) : w.frozen? ⟨b, i, none⟩ = false := by
  unfold World.frozen?
  simp only [h]
  simp
theorem blk_new (w : World) (c : Array Value) (t : TypeId) : (w.alloc (.cells c t)).heap[w.heap.size]? = some (.cells c t (0, 0)) := by
  unfold World.alloc
  simp only [Array.getElem?_push_size]
theorem four {w W : World} {B : Nat} (h : Below B w W) {b : Nat} (hb : B ≤ b) (x0 x1 x2 x3 : Value) : Below B w ((((W.setCell ⟨b, 0, none⟩ x0).setCell ⟨b, 1, none⟩ x1).setCell ⟨b, 2, none⟩ x2).setCell ⟨b, 3, none⟩ x3) :=
  (((h.setCell hb _).setCell hb _).setCell hb _).setCell hb _

/-- A field of the instruction at a place. -/
def fV (m : Ma) (a : Int) (i : Nat) : Int := if hasB m a 2 = true then dV (wordS m a) i else 0
theorem fV_bd (m : Ma) (a : Int) : 0 ≤ fV m a 1 ∧ fV m a 1 ≤ 15 ∧ 0 ≤ fV m a 2 ∧ fV m a 2 ≤ 15 ∧ -10000 ≤ fV m a 3 ∧ fV m a 3 ≤ 10000 := by
  unfold fV
  obtain ⟨_, h⟩ := dV_all (wordS m a)
  split
  · exact h
  · omega

theorem mSize (m : Ma) (ba : Option Addr) (bc : Nat) (sv : Value) (ta : Option Addr) (tc : Nat) : (Tryd.prog.info? 29).map (·.size) = some (mC m ba bc sv ta tc).size := by kernel_rfl

set_option maxRecDepth 100000 in
set_option maxHeartbeats 4000000 in
theorem fetch_any (hDec : DecOk) (m : Ma) (ba : Option Addr) (bc : Nat) (sv : Value) (ta : Option Addr) (tc : Nat) (a : Int) (w : World) (hR : BRd w ba m.by') (hb0 : 0 ≤ m.base) (hb1 : m.base ≤ 1048576) (hl : m.by'.length ≤ 140737488355328) (ha0 : -9223372036854775808 ≤ a) (ha1 : a ≤ 4611686018427387904) :
    Calls Tryd.prog 23 #[.agg (mC m ba bc sv ta tc), .int .i64 a] w fun e w' => e = .returned (.tuple #[.agg #[.int .i64 (fV m a 0), .int .i64 (fV m a 1), .int .i64 (fV m a 2), .int .i64 (fV m a 3)], .int .i64 (fetchE m a)]) ∧ Below w.heap.size w w' := by
  obtain ⟨V, hV⟩ : ∃ V, V = (w.alloc (.cells (mC m ba bc sv ta tc) 29)).alloc (.cells #[.int .i64 0, .int .i64 0, .int .i64 0, .int .i64 0] 45) := ⟨_, rfl⟩
  have hV0 : Below w.heap.size w V := by rw [hV]; exact (oalloc _ _).trans ((oalloc _ _).mono (by simp))
  have hV1 : V.heap[w.heap.size]? = some (.cells (mC m ba bc sv ta tc) 29 (0, 0)) := by rw [hV, (oalloc _ _).block _ (by simp)]; exact blk_new _ _ _
  have hV2 : V.heap[w.heap.size + 1]? = some (.cells #[.int .i64 0, .int .i64 0, .int .i64 0, .int .i64 0] 45 (0, 0)) := by
    rw [hV]
    have := blk_new (w.alloc (.cells (mC m ba bc sv ta tc) 29)) #[.int .i64 0, .int .i64 0, .int .i64 0, .int .i64 0] 45
    simpa using this
  have HV := Lib.hid hV
  have HH := Lib.hid (has_any m ba bc sv ta tc a 2 V (Or.inl rfl) hb0 hb1 hl ha0 ha1)
  by_cases hh : hasB m a 2 = true
  · have e0 : fV m a 0 = dV (wordS m a) 0 := by unfold fV; rw [if_pos hh]
    have e1 : fV m a 1 = dV (wordS m a) 1 := by unfold fV; rw [if_pos hh]
    have e2 : fV m a 2 = dV (wordS m a) 2 := by unfold fV; rw [if_pos hh]
    have e3 : fV m a 3 = dV (wordS m a) 3 := by unfold fV; rw [if_pos hh]
    have e4 : fetchE m a = decE (wordS m a) := by unfold fetchE; rw [if_pos hh]
    rw [e0, e1, e2, e3, e4]
    obtain ⟨q1, q2, q3⟩ := hasB_in hh
    have HG : Hid (∀ W, Below w.heap.size w W → Calls Tryd.prog 19 #[.slice ba m.by'.length bc, .int .i64 (a - m.base), .int .i64 2] W fun e w' => e = .returned (.int .i64 (wordS m a)) ∧ w' = W) := fun W hb => rget m ba bc (a - m.base) 2 W (hR.next hb) hl (by omega) (by omega) (by omega) (by omega)
    have HD : Hid (∀ W, Calls Tryd.prog 18 #[.int .i64 (wordS m a)] W fun e w' => e = .returned (.tuple #[.agg #[.int .i64 (dV (wordS m a) 0), .int .i64 (dV (wordS m a) 1), .int .i64 (dV (wordS m a) 2), .int .i64 (dV (wordS m a) 3)], .int .i64 (decE (wordS m a))]) ∧ Below W.heap.size W w') := fun W => by
      have := hDec (wordS m a) W
      rw [(dV_all (wordS m a)).1] at this
      exact this
    rw [hh] at HH
    clear hh e0 e1 e2 e3 e4 hDec hR
    generalize wordS m a = x at *
    generalize decE x = ee at *
    generalize dV x 0 = d0 at *
    generalize dV x 1 = d1 at *
    generalize dV x 2 = d2 at *
    generalize dV x 3 = d3 at *
    rw [hV] at HH
    have hV0x := hV ▸ hV0
    have hV1x := hV ▸ hV1
    have hV2x := hV ▸ hV2
    have HHx := HH
    have hlt1 := (Array.getElem?_eq_some_iff.1 hV1x).1
    have hlt2 := (Array.getElem?_eq_some_iff.1 hV2x).1
    have hle := hV0x.size
    clear hV hV0 hV1 hV2 HH HV
    go_enter Tryd.func23, Tryd.ntmps23
    go_wp2_with (first | (refine wpList_load_row rfl 29 _ rfl w.heap.size rfl 29 (mC m ba bc sv ta tc) (0, 0) _ hV1x Tryd.underlying29 rfl (mSize _ _ _ _ _ _) ?_) | (go_at_call 37; refine HHx.out.mono ?_; rintro e W1 ⟨rfl, hb1⟩; have k1 := (hb1.block _ hlt1).trans hV1x; have K2 := Lib.hid ((hb1.block _ hlt2).trans hV2x); have c19 : W1.cell? ⟨w.heap.size, 19, none⟩ = some (.int .i64 m.base) := cell_of_block (i := 19) k1 rfl; have c20 : W1.cell? ⟨w.heap.size, 20, none⟩ = some (.slice ba m.by'.length bc) := cell_of_block (i := 20) k1 rfl; have HB1 := Lib.hid (hV0x.trans (hb1.mono hle)); clear hb1 k1) | (go_at_call 19; refine (HG.out _ HB1.out).mono ?_; rintro e w' ⟨rfl, rfl⟩) | (go_at_call 18; refine (HD.out _).mono ?_; rintro e W2 ⟨rfl, hb2⟩; have kk := (hb2.block _ (Array.getElem?_eq_some_iff.1 K2.out).1).trans K2.out; have HB2 := Lib.hid (HB1.out.trans (hb2.mono HB1.out.size)); have z0 := blk_froz (i := 0) kk; have z1 := blk_froz (i := 1) kk; have z2 := blk_froz (i := 2) kk; have z3 := blk_froz (i := 3) kk; have y0 : W2.cell? ⟨w.heap.size + 1, 0, none⟩ = some (.int .i64 0) := cell_of_block (i := 0) kk rfl; have y1 : W2.cell? ⟨w.heap.size + 1, 1, none⟩ = some (.int .i64 0) := cell_of_block (i := 1) kk rfl; have y2 : W2.cell? ⟨w.heap.size + 1, 2, none⟩ = some (.int .i64 0) := cell_of_block (i := 2) kk rfl; have y3 : W2.cell? ⟨w.heap.size + 1, 3, none⟩ = some (.int .i64 0) := cell_of_block (i := 3) kk rfl; have hlt := (Array.getElem?_eq_some_iff.1 kk).1; clear hb2 kk) | fail)
    refine bodyPost_ret (v := .tuple #[.agg #[.int .i64 d0, .int .i64 d1, .int .i64 d2, .int .i64 d3], .int .i64 ee]) (by simp [results, Tryd.results23, go_sem, y0, y1, y2, y3]) rfl ⟨rfl, four HB2.out (Nat.le_succ _) _ _ _ _⟩
  · have hh' : hasB m a 2 = false := by simpa using hh
    have e : ∀ i, fV m a i = 0 := fun i => by unfold fV; rw [if_neg hh]
    have e4 : fetchE m a = 6 := by unfold fetchE; rw [if_neg hh]
    rw [e, e, e, e, e4]
    rw [hh'] at HH
    clear hh hh' e e4 hDec hR
    rw [hV] at HH
    have hV0x := hV ▸ hV0
    have hV1x := hV ▸ hV1
    have hV2x := hV ▸ hV2
    have HHx := HH
    have hlt2 := (Array.getElem?_eq_some_iff.1 hV2x).1
    have hle := hV0x.size
    clear hV hV0 hV1 hV2 HH HV
    go_enter Tryd.func23, Tryd.ntmps23
    go_wp2_with (first | (refine wpList_load_row rfl 29 _ rfl w.heap.size rfl 29 (mC m ba bc sv ta tc) (0, 0) _ hV1x Tryd.underlying29 rfl (mSize _ _ _ _ _ _) ?_) | (go_at_call 37; refine HHx.out.mono ?_; rintro e W2 ⟨rfl, hb1⟩; have kk := (hb1.block _ hlt2).trans hV2x; have z0 := blk_froz (i := 0) kk; have z1 := blk_froz (i := 1) kk; have z2 := blk_froz (i := 2) kk; have z3 := blk_froz (i := 3) kk; have y0 : W2.cell? ⟨w.heap.size + 1, 0, none⟩ = some (.int .i64 0) := cell_of_block (i := 0) kk rfl; have y1 : W2.cell? ⟨w.heap.size + 1, 1, none⟩ = some (.int .i64 0) := cell_of_block (i := 1) kk rfl; have y2 : W2.cell? ⟨w.heap.size + 1, 2, none⟩ = some (.int .i64 0) := cell_of_block (i := 2) kk rfl; have y3 : W2.cell? ⟨w.heap.size + 1, 3, none⟩ = some (.int .i64 0) := cell_of_block (i := 3) kk rfl; have hlt := (Array.getElem?_eq_some_iff.1 kk).1; have HB1 := Lib.hid (hV0x.trans (hb1.mono hle)); clear hb1 kk) | fail)
    refine bodyPost_ret (v := .tuple #[.agg #[.int .i64 0, .int .i64 0, .int .i64 0, .int .i64 0], .int .i64 6]) (by simp [results, Tryd.results23, go_sem, y0, y1, y2, y3]) rfl ⟨rfl, four HB1.out (Nat.le_succ _) _ _ _ _⟩

/-- The document's own New. -/
def newM (base : Int) (l : List UInt8) : Ma := ⟨fun _ => 0, false, base, -1, base, l, [], 0⟩

end Go.Proofs.YtabepbaldadmgaaDoor

namespace Go.Proofs.YtabepbaldadmgaaDoor
open Go.RowKit Isa

/-- A register is another number. -/
def setR (m : Ma) (n : Nat) (v : Int) : Ma := { m with r := fun k => if k = n then v else m.r k }
theorem mC_reg (m : Ma) (ba : Option Addr) (bc : Nat) (sv : Value) (ta : Option Addr) (tc : Nat) (n : Nat) (hn : n < 16) : (mC m ba bc sv ta tc)[n]? = some (.int .i64 (m.r n)) := by
  match n, hn with
  | 0, _ | 1, _ | 2, _ | 3, _ | 4, _ | 5, _ | 6, _ | 7, _ | 8, _ | 9, _ | 10, _ | 11, _ | 12, _ | 13, _ | 14, _ | 15, _ => rfl
  | n + 16, h => exact absurd h (by omega)
theorem mC_set (m : Ma) (ba : Option Addr) (bc : Nat) (sv : Value) (ta : Option Addr) (tc : Nat) (n : Nat) (hn : n < 16) (v : Int) : (mC m ba bc sv ta tc).setIfInBounds n (.int .i64 v) = mC (setR m n v) ba bc sv ta tc := by
  match n, hn with
  | 0, _ | 1, _ | 2, _ | 3, _ | 4, _ | 5, _ | 6, _ | 7, _ | 8, _ | 9, _ | 10, _ | 11, _ | 12, _ | 13, _ | 14, _ | 15, _ => rfl
  | n + 16, h => exact absurd h (by omega)
theorem mC_t (m : Ma) (ba : Option Addr) (bc : Nat) (sv : Value) (ta : Option Addr) (tc : Nat) (v : Bool) : (mC m ba bc sv ta tc).setIfInBounds 16 (.bool v) = mC { m with t := v } ba bc sv ta tc := rfl

theorem mOne (m : Ma) (ba : Option Addr) (bc : Nat) (s0 : Option Addr) (s1 s2 : Nat) (ta : Option Addr) (tc : Nat) : ∀ v ∈ (mC m ba bc (.slice s0 s1 s2) ta tc).toList, v.oneCell' = true := by
  intro v hv
  simp [mC] at hv
  rcases hv with rfl | rfl | rfl | rfl | rfl | rfl | rfl | rfl | rfl | rfl | rfl | rfl | rfl | rfl | rfl | rfl | rfl | rfl | rfl | rfl | rfl | rfl | rfl | rfl <;> rfl

def zeroM : Ma := ⟨fun _ => 0, false, 0, 0, 0, [], [], 0⟩

/-- The function set: a register of the box at g. -/
theorem set_any (m : Ma) (ba : Option Addr) (bc : Nat) (sv : Value) (ta : Option Addr) (tc : Nat) (g q : Nat) (op n mm imm v : Int) (W : World) (hg : W.heap[g]? = some (.cells (mC m ba bc sv ta tc) 29 (0, 0))) (hq : W.heap[q]? = some (.cells #[.int .i64 op, .int .i64 n, .int .i64 mm, .int .i64 imm] 45 (0, 0))) (hn0 : 0 ≤ n) (hn1 : n ≤ 15) (hv0 : -2147483648 ≤ v) (hv1 : v ≤ 2147483647) :
    Calls Tryd.prog 38 #[.int .i32 v, .pointer (some ⟨g, 0, none⟩), .pointer (some ⟨q, 0, none⟩)] W fun e W' => e = .returned (.tuple #[]) ∧ W' = W.setCell ⟨g, n.toNat, none⟩ (.int .i64 v) := by
  have c1 := cell_of_block (i := 1) hq rfl
  have c2 := cell_of_block (i := n.toNat) hg (mC_reg m ba bc sv ta tc n.toNat (by omega))
  have f2 := blk_froz (i := n.toNat) hg
  have hn2 : n < 16 := by omega
  go_enter Tryd.func38, Tryd.ntmps38
  go_wp2
  exact bodyPost_end (v := .tuple #[]) (by simp [results, Tryd.results38, go_sem]) rfl ⟨rfl, rfl⟩

/-- A machine and an error as results. -/
theorem res_m {T : Array Value} {W : World} {g : Nat} {e : Int} {m : Ma} {ba : Option Addr} {bc : Nat} {sv : Value} {ta : Option Addr} {tc : Nat} (h6 : T.getD 6 undef = .pointer (some ⟨g, 0, none⟩)) (h7 : T.getD 7 undef = .int .i64 e) (hg : W.heap[g]? = some (.cells (mC m ba bc sv ta tc) 29 (0, 0))) :
    (results Tryd.f25 T).run Tryd.prog W = .ok (.tuple #[.agg (mC m ba bc sv ta tc), .int .i64 e]) W := by
  have hl := run_loadVar_row (P := Tryd.prog) W g 29 29 (mC m ba bc sv ta tc) (0, 0) _ hg Tryd.underlying29 rfl (mSize _ _ _ _ _ _)
  have h6' : T[6]?.getD undef = .pointer (some ⟨g, 0, none⟩) := by simpa using h6
  have h7' : T[7]?.getD undef = .int .i64 e := by simpa using h7
  simp [results, Tryd.results25, h6', h7', asAddr, hl]
theorem mAll (m : Ma) (ba : Option Addr) (bc : Nat) (s0 : Option Addr) (s1 s2 : Nat) (ta : Option Addr) (tc : Nat) : (mC m ba bc (.slice s0 s1 s2) ta tc).all (·.oneCell') = true := by kernel_rfl

/-- The three boxes that Plain begins with. -/
theorem pl_start (w : World) (m : Ma) (ba : Option Addr) (bc : Nat) (sv : Value) (ta : Option Addr) (tc : Nat) (op n mm imm : Int) (V : World) (hV : V = ((w.alloc (.cells (mC m ba bc sv ta tc) 29)).alloc (.cells #[.int .i64 op, .int .i64 n, .int .i64 mm, .int .i64 imm] 45)).alloc (.cells (mC zeroM none 0 (.slice none 0 0) none 0) 29)) :
    Below w.heap.size w V ∧ V.heap[w.heap.size]? = some (.cells (mC m ba bc sv ta tc) 29 (0, 0)) ∧ V.heap[w.heap.size + 1]? = some (.cells #[.int .i64 op, .int .i64 n, .int .i64 mm, .int .i64 imm] 45 (0, 0)) ∧ V.heap[w.heap.size + 2]? = some (.cells (mC zeroM none 0 (.slice none 0 0) none 0) 29 (0, 0)) := by
  subst hV
  refine ⟨((oalloc _ _).trans ((oalloc _ _).mono (by simp))).trans ((oalloc _ _).mono (by simp; omega)), ?_, ?_, ?_⟩
  · rw [(oalloc _ _).block _ (by simp; omega), (oalloc _ _).block _ (by simp)]
    exact blk_new _ _ _
  · rw [(oalloc _ _).block _ (by simp)]
    have := blk_new (w.alloc (.cells (mC m ba bc sv ta tc) 29)) #[.int .i64 op, .int .i64 n, .int .i64 mm, .int .i64 imm] 45
    simpa using this
  · have := blk_new ((w.alloc (.cells (mC m ba bc sv ta tc) 29)).alloc (.cells #[.int .i64 op, .int .i64 n, .int .i64 mm, .int .i64 imm] 45)) (mC zeroM none 0 (.slice none 0 0) none 0) 29
    simpa using this

end Go.Proofs.YtabepbaldadmgaaDoor

namespace Go.Proofs.YtabepbaldadmgaaDoor
open Go.RowKit Isa

theorem wrap64_toInt (b : BitVec 64) : IntKind.i64.wrap (b.toNat : Int) = b.toInt := by
  rw [IntKind.wrap_i64, BitVec.toInt_eq_toNat_cond]
  have := b.isLt
  split <;> omega
theorem wrap32_toInt (b : BitVec 32) : IntKind.i32.wrap (b.toNat : Int) = b.toInt := by
  have e : ∀ n : Int, IntKind.i32.wrap n = (n + 2147483648) % 4294967296 - 2147483648 := fun n => by simp [IntKind.wrap, IntKind.bits, IntKind.signed]; omega
  rw [e, BitVec.toInt_eq_toNat_cond]
  have := b.isLt
  split <;> omega
theorem ofInt_ext (x : Int) (h0 : -2147483648 ≤ x) (h1 : x ≤ 2147483647) : BitVec.ofInt 64 x = (BitVec.ofInt 32 x).signExtend 64 := by
  apply BitVec.eq_of_toInt_eq
  rw [BitVec.toInt_signExtend_of_le (by decide), BitVec.toInt_ofInt, BitVec.toInt_ofInt]
  simp only [Int.bmod]
  omega
theorem and_ext (x y : Int) (h0 : -2147483648 ≤ x) (h1 : x ≤ 2147483647) (h2 : -2147483648 ≤ y) (h3 : y ≤ 2147483647) : bits .and .i64 x y = bits .and .i32 x y := by
  show IntKind.i64.wrap ((BitVec.ofInt 64 x &&& BitVec.ofInt 64 y).toNat : Int) = IntKind.i32.wrap ((BitVec.ofInt 32 x &&& BitVec.ofInt 32 y).toNat : Int)
  rw [wrap64_toInt, wrap32_toInt, ofInt_ext x h0 h1, ofInt_ext y h2 h3, ← BitVec.signExtend_and, BitVec.toInt_signExtend_of_le (by decide)]
theorem or_ext (x y : Int) (h0 : -2147483648 ≤ x) (h1 : x ≤ 2147483647) (h2 : -2147483648 ≤ y) (h3 : y ≤ 2147483647) : bits .or .i64 x y = bits .or .i32 x y := by
  show IntKind.i64.wrap ((BitVec.ofInt 64 x ||| BitVec.ofInt 64 y).toNat : Int) = IntKind.i32.wrap ((BitVec.ofInt 32 x ||| BitVec.ofInt 32 y).toNat : Int)
  rw [wrap64_toInt, wrap32_toInt, ofInt_ext x h0 h1, ofInt_ext y h2 h3, ← BitVec.signExtend_or, BitVec.toInt_signExtend_of_le (by decide)]
theorem xor_ext (x y : Int) (h0 : -2147483648 ≤ x) (h1 : x ≤ 2147483647) (h2 : -2147483648 ≤ y) (h3 : y ≤ 2147483647) : bits .xor .i64 x y = bits .xor .i32 x y := by
  show IntKind.i64.wrap ((BitVec.ofInt 64 x ^^^ BitVec.ofInt 64 y).toNat : Int) = IntKind.i32.wrap ((BitVec.ofInt 32 x ^^^ BitVec.ofInt 32 y).toNat : Int)
  rw [wrap64_toInt, wrap32_toInt, ofInt_ext x h0 h1, ofInt_ext y h2 h3, ← BitVec.signExtend_xor, BitVec.toInt_signExtend_of_le (by decide)]
theorem and_one (x : Int) : bits .and .i64 x 1 = x % 2 := by
  show IntKind.i64.wrap ((BitVec.ofInt 64 x &&& BitVec.ofInt 64 1).toNat : Int) = _
  have e : (BitVec.ofInt 64 x &&& BitVec.ofInt 64 1).toNat = (x % 18446744073709551616).toNat % 2 := by
    rw [BitVec.toNat_and, BitVec.toNat_ofInt]
    show (x % 18446744073709551616).toNat &&& 1 = _
    rw [Nat.and_one_is_mod]
  rw [e, IntKind.wrap_i64]
  omega

end Go.Proofs.YtabepbaldadmgaaDoor
