/- The contract of isa.Find. The contract of isa.Decode. The contract of isa.Get: a number of at most six bytes. -/
import Derived.Test.YtagkmgdjkailkaaGreatDoorPut1
import Derived.Laws.Rows
namespace Go.Proofs.YtagkmgdjkailkaaGreatDoor.Isa
open Go.RowKit

/-- A row of the table 'operations' as a value. -/
def opV (k : Int) : Value := .agg #[.string (opName k), .int .i64 (opShape k), .int .i64 (opBits k)]

set_option maxRecDepth 100000 in
theorem opIndexAll (w : World) : ((List.range 28).map fun k : Nat => (Instr.index 283 (.agg opCells) (.int .i64 (k : Int))).run Tryz.prog w) = (List.range 28).map fun k : Nat => .ok (opV (k : Int)) w := by kernel_rfl

theorem opIndex (k : Nat) (hk : k < 28) (w : World) : (Instr.index 283 (.agg opCells) (.int .i64 (k : Int))).run Tryz.prog w = .ok (.agg #[.string (opName k), .int .i64 (opShape k), .int .i64 (opBits k)]) w := by
  have h := congrArg (fun l => l[k]?) (opIndexAll w)
  simpa [hk, opV] using h

theorem opSize : (Tryz.prog.info? 283).map (·.size) = some opCells.size := by kernel_rfl

/-- Which op, from k on, has this name and shape: 0, if none has. -/
def findFrom (name : ByteArray) (shape : Int) : Nat → Nat → Int
  | 0, _ => 0
  | fuel + 1, k => if knownB k = true ∧ (opName k).toList = name.toList ∧ opShape k = shape then (k : Int) else findFrom name shape fuel (k + 1)

theorem find_yes {name : ByteArray} {shape : Int} {k : Nat} (hk : k < 28) (hf : findFrom name shape 28 0 = findFrom name shape (28 - k) k) (h1 : knownB k = true) (h2 : (opName k).toList = name.toList) (h3 : (opShape k == shape) = true) : findFrom name shape 28 0 = (k : Int) := by
  rw [hf]
  obtain ⟨j, hj⟩ : ∃ j, 28 - k = j + 1 := ⟨27 - k, by omega⟩
  rw [hj]
  unfold findFrom
  rw [if_pos ⟨h1, h2, by simpa using h3⟩]

theorem find_no {name : ByteArray} {shape : Int} {k : Nat} (hk : k < 28) (hf : findFrom name shape 28 0 = findFrom name shape (28 - k) k) (h : ¬ (knownB k = true ∧ (opName k).toList = name.toList ∧ opShape k = shape)) : findFrom name shape 28 0 = findFrom name shape (28 - (k + 1)) (k + 1) := by
  rw [hf]
  obtain ⟨j, hj⟩ : ∃ j, 28 - k = j + 1 := ⟨27 - k, by omega⟩
  have hj' : 28 - (k + 1) = j := by omega
  rw [hj, hj']
  rw [findFrom, if_neg h]

theorem find_any (name : ByteArray) (shape : Int) (w : World) (hL : Laid w) :
    Calls Tryz.prog 165 #[.string name, .int .i64 shape] w fun e w' => e = .returned (.int .i64 (findFrom name shape 28 0)) ∧ Below w.heap.size w w' := by
  obtain ⟨t, fr, hblk⟩ := hL.blk
  go_enter Tryz.func165, Tryz.ntmps165
  go_wp2_with (refine wpList_load_row rfl 283 _ rfl 7 rfl t opCells fr _ hblk Tryz.underlying283 rfl opSize ?_)
  clear hblk
  go_loopw [8] (fun i wr => ∃ k : Nat, k ≤ 28 ∧ i = .int .i64 k ∧ Below w.heap.size w wr ∧ Hid (findFrom name shape 28 0 = findFrom name shape (28 - k) k)) (fun i _ => 28 - (intOf i).toNat)
  case atStart => exact ⟨0, Nat.zero_le _, rfl, Below.refl _ _, rfl⟩
  case round =>
    obtain ⟨k, hk, rfl, hB, HF⟩ := hrel
    by_cases hlt : k < 28
    · have hi := opIndex k hlt
      have hk' : (k : Int) < 28 := by omega
      cases hkn : knownB k
      · go_wp2_with (go_at_call 191; refine (known_any _ _).mono ?_; rintro e w' ⟨rfl, rfl⟩)
        exact ⟨⟨k + 1, by omega, by go_num, hB.alloc hB.size _, find_no hlt HF.out (by simp [hkn])⟩, by simp [intOf]; omega⟩
      · go_wp2_with (go_at_call 191; refine (known_any _ _).mono ?_; rintro e w' ⟨rfl, rfl⟩)
        · have h2 : (opName k).toList = name.toList := by assumption
          have h3 : (opShape k == shape) = true := by assumption
          have hfin := find_yes hlt HF.out hkn h2 h3
          go_ret
          exact ⟨ret_int hfin.symm, hB.alloc hB.size _⟩
        · have h3 : (opShape k == shape) = false := by assumption
          exact ⟨⟨k + 1, by omega, by go_num, hB.alloc hB.size _, find_no hlt HF.out (by simp at h3; simp [h3])⟩, by simp [intOf]; omega⟩
        · have h2 : ¬ (opName k).toList = name.toList := by assumption
          exact ⟨⟨k + 1, by omega, by go_num, hB.alloc hB.size _, find_no hlt HF.out (by simp [h2])⟩, by simp [intOf]; omega⟩
    · have hk' : ¬ (k : Int) < 28 := by omega
      have hfin : findFrom name shape 28 0 = 0 := by
        rw [HF.out, show 28 - k = 0 by omega]; rfl
      have HX : Hid (findFrom name shape 28 0 = 0) := hfin
      clear hfin
      go_wp2
      go_ret
      exact ⟨ret_int HX.out.symm, hB⟩

end Go.Proofs.YtagkmgdjkailkaaGreatDoor.Isa

namespace Go.Proofs.YtagkmgdjkailkaaGreatDoor.Isa
open Go.RowKit

/-- The bits of op k's operands. -/
def maskOf (k : Int) : Int := opMask (layN (opShape k)) (layM (opShape k)) (layLow (opShape k)) (layHigh (opShape k))
/-- Is half word x an instruction of op k? -/
def decHit (x k : Int) : Bool := knownB k && (bits .andNot .i64 x (maskOf k) == opBits k)
/-- Which op, from k on, is written so: 0, if none is. -/
def decFrom (x : Int) : Nat → Nat → Int
  | 0, _ => 0
  | fuel + 1, k => if decHit x k = true then (k : Int) else decFrom x fuel (k + 1)

theorem dec_yes {x : Int} {k : Nat} (hk : k < 28) (hf : decFrom x 28 0 = decFrom x (28 - k) k) (h : decHit x k = true) : decFrom x 28 0 = (k : Int) := by
  rw [hf]
  obtain ⟨j, hj⟩ : ∃ j, 28 - k = j + 1 := ⟨27 - k, by omega⟩
  rw [hj, decFrom, if_pos h]

theorem dec_no {x : Int} {k : Nat} (hk : k < 28) (hf : decFrom x 28 0 = decFrom x (28 - k) k) (h : decHit x k = false) : decFrom x 28 0 = decFrom x (28 - (k + 1)) (k + 1) := by
  rw [hf]
  obtain ⟨j, hj⟩ : ∃ j, 28 - k = j + 1 := ⟨27 - k, by omega⟩
  have hj' : 28 - (k + 1) = j := by omega
  rw [hj, hj', decFrom, if_neg (by simp [h])]

/-- What Decode tells of a half word: the instruction's value, and the error. -/
def decV (x : Int) : Value :=
  if withinB x 0 65535 = true ∧ decFrom x 28 0 ≠ 0 then rdV (layN (opShape (decFrom x 28 0))) (layM (opShape (decFrom x 28 0))) (layLow (opShape (decFrom x 28 0))) (layHigh (opShape (decFrom x 28 0))) (decFrom x 28 0) x
  else .agg #[.int .i64 0, .int .i64 0, .int .i64 0, .int .i64 0]
def decE (x : Int) : Int := if withinB x 0 65535 = true then (if decFrom x 28 0 = 0 then 12 else 0) else 3

/-- The cells that Decode's test reads stay, behind a callee that writes nothing old. -/
theorem keepD {w0 w1 w2 : World} {B C B0 B1 : Nat} {a b c d e : Value} (hb : Below B1 w1 w2) (hB : B < B1) (hC : C < B1) (h0 : B0 ≤ B1)
    (h : B < w1.heap.size ∧ C < w1.heap.size ∧ w1.cell? ⟨B, 2, none⟩ = some a ∧ w1.cell? ⟨C, 0, none⟩ = some b ∧ w1.cell? ⟨C, 1, none⟩ = some c ∧ w1.cell? ⟨C, 2, none⟩ = some d ∧ w1.cell? ⟨C, 3, none⟩ = some e ∧ Below B0 w0 w1) :
    B < w2.heap.size ∧ C < w2.heap.size ∧ w2.cell? ⟨B, 2, none⟩ = some a ∧ w2.cell? ⟨C, 0, none⟩ = some b ∧ w2.cell? ⟨C, 1, none⟩ = some c ∧ w2.cell? ⟨C, 2, none⟩ = some d ∧ w2.cell? ⟨C, 3, none⟩ = some e ∧ Below B0 w0 w2 := by
  obtain ⟨h0, h1, h2, h3, h4, h5, h6, h7⟩ := h
  exact ⟨Nat.lt_of_lt_of_le h0 hb.size, Nat.lt_of_lt_of_le h1 hb.size, by rw [hb.cell hB]; exact h2, by rw [hb.cell hC]; exact h3, by rw [hb.cell hC]; exact h4, by rw [hb.cell hC]; exact h5, by rw [hb.cell hC]; exact h6, h7.trans (hb.mono (by omega))⟩

theorem startD {w0 w1 : World} {B B0 : Nat} {a b c d e : Value} (hB : Below B0 w0 w1) (h0 : B0 ≤ w1.heap.size) (hz : B < w1.heap.size) (h1 : w1.cell? ⟨B, 2, none⟩ = some a) :
    B < (w1.alloc (.cells #[b, c, d, e] 285)).drew.heap.size ∧ w1.heap.size < (w1.alloc (.cells #[b, c, d, e] 285)).drew.heap.size ∧ (w1.alloc (.cells #[b, c, d, e] 285)).drew.cell? ⟨B, 2, none⟩ = some a ∧ (w1.alloc (.cells #[b, c, d, e] 285)).drew.cell? ⟨w1.heap.size, 0, none⟩ = some b ∧ (w1.alloc (.cells #[b, c, d, e] 285)).drew.cell? ⟨w1.heap.size, 1, none⟩ = some c ∧ (w1.alloc (.cells #[b, c, d, e] 285)).drew.cell? ⟨w1.heap.size, 2, none⟩ = some d ∧ (w1.alloc (.cells #[b, c, d, e] 285)).drew.cell? ⟨w1.heap.size, 3, none⟩ = some e ∧ Below B0 w0 (w1.alloc (.cells #[b, c, d, e] 285)).drew := by
  refine ⟨?_, ?_, ?_, ?_, ?_, ?_, ?_, (hB.alloc h0 _).drew⟩
  · simp; omega
  · simp
  · simp; rw [World.cell?_alloc_lt _ _ _ (by simpa using hz)]; exact h1
  · simp
  · simp
  · simp
  · simp

theorem known_yes (a : Int) (w : World) (h : knownB a = true) : Calls Tryz.prog 191 #[.int .i64 a] w fun e w' => e = .returned (.bool true) ∧ w' = w := by
  have := known_any a w
  rwa [h] at this
theorem known_no (a : Int) (w : World) (h : knownB a = false) : Calls Tryz.prog 191 #[.int .i64 a] w fun e w' => e = .returned (.bool false) ∧ w' = w := by
  have := known_any a w
  rwa [h] at this

theorem bcellB {B : Nat} {W w1 : World} (hb : Below B W w1) : (∀ b o, b < B → w1.cell? ⟨b, o, none⟩ = W.cell? ⟨b, o, none⟩) ∧ (∀ b o, b < B → w1.frozen? ⟨b, o, none⟩ = W.frozen? ⟨b, o, none⟩) :=
  ⟨fun b o h => hb.cell (p := ⟨b, o, none⟩) h, fun b o h => hb.frozen (p := ⟨b, o, none⟩) h⟩

theorem decV_hit {x : Int} {k : Nat} (hk : k < 28) (hw : withinB x 0 65535 = true) (hf : decFrom x 28 0 = decFrom x (28 - k) k) (h : decHit x k = true) :
    decV x = rdV (layN (opShape k)) (layM (opShape k)) (layLow (opShape k)) (layHigh (opShape k)) k x ∧ decE x = 0 := by
  have e := dec_yes hk hf h
  have h0 : (k : Int) ≠ 0 := by
    intro h0
    rw [h0] at h
    simp [decHit, knownB, withinB] at h
  unfold decV decE
  rw [e, if_pos ⟨hw, h0⟩, if_pos hw, if_neg h0]
  exact ⟨rfl, rfl⟩

theorem decV_none {x : Int} (hw : withinB x 0 65535 = true) (hf : decFrom x 28 0 = 0) :
    decV x = .agg #[.int .i64 0, .int .i64 0, .int .i64 0, .int .i64 0] ∧ decE x = 12 := by
  unfold decV decE
  rw [hf, if_neg (by simp), if_pos hw, if_pos rfl]
  exact ⟨rfl, rfl⟩

end Go.Proofs.YtagkmgdjkailkaaGreatDoor.Isa

namespace Go.Proofs.YtagkmgdjkailkaaGreatDoor.Isa
open Go.RowKit

/-- The byte at place p of bytes that are len many: 0, if it is not there. -/
def byteAt (bs : Nat → Int) (len : Nat) (p : Int) : Int := if 0 ≤ p ∧ p < (len : Int) then bs p.toNat else 0
/-- The number of the k bytes from at on. -/
def getTo (bs : Nat → Int) (len : Nat) (at' : Int) : Nat → Int
  | 0 => 0
  | k + 1 => getTo bs len at' k * 256 + byteAt bs len (at' + k)

def IsByte (bs : Nat → Int) : Prop := ∀ i, 0 ≤ bs i ∧ bs i ≤ 255

theorem byteAt_bd {bs : Nat → Int} (h : IsByte bs) (len : Nat) (p : Int) : 0 ≤ byteAt bs len p ∧ byteAt bs len p ≤ 255 := by
  unfold byteAt
  split
  · exact h _
  · omega

theorem getTo_bd {bs : Nat → Int} (h : IsByte bs) (len : Nat) (a : Int) (k : Nat) : 0 ≤ getTo bs len a k ∧ getTo bs len a k < (256 : Int) ^ k := by
  induction k with
  | zero => simp [getTo]
  | succ k ih =>
    have := byteAt_bd h len (a + k)
    rw [getTo, Int.pow_succ]
    omega

/-- Eight bits that are free are filled. -/
theorem or_byte (n b : Int) (h0 : 0 ≤ n) (h1 : n < 281474976710656) (h2 : 0 ≤ b) (h3 : b ≤ 255) : bits .or .i64 (n * 256) b = n * 256 + b := by
  obtain ⟨m, rfl⟩ := Int.eq_ofNat_of_zero_le h0
  obtain ⟨c, rfl⟩ := Int.eq_ofNat_of_zero_le h2
  have hm : m < 281474976710656 := by omega
  have hc : c < 256 := by omega
  have e : (m * 256) ||| c = m * 256 + c := by
    have := Nat.shiftLeft_add_eq_or_of_lt (i := 8) (b := c) (by simpa using hc) m
    rw [Nat.shiftLeft_eq] at this
    simpa using this.symm
  unfold bits
  have ha : BitVec.ofInt IntKind.i64.bits ((m : Int) * 256) = BitVec.ofNat 64 (m * 256) := by
    have : ((m : Int) * 256) = ((m * 256 : Nat) : Int) := by omega
    rw [this]; rfl
  have hb : BitVec.ofInt IntKind.i64.bits (c : Int) = BitVec.ofNat 64 c := rfl
  simp only [ha, hb]
  have ht : (BitVec.ofNat 64 (m * 256) ||| BitVec.ofNat 64 c).toNat = m * 256 + c := by
    rw [BitVec.toNat_or, BitVec.toNat_ofNat, BitVec.toNat_ofNat, Nat.mod_eq_of_lt (by omega), Nat.mod_eq_of_lt (by omega), e]
  show IntKind.i64.wrap ((BitVec.ofNat 64 (m * 256) ||| BitVec.ofNat 64 c).toNat : Int) = _
  rw [ht, IntKind.wrap_i64]
  omega

end Go.Proofs.YtagkmgdjkailkaaGreatDoor.Isa
