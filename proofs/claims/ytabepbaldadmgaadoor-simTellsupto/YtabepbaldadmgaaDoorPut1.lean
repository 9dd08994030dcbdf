/- Contracts of isa.Info, isa.Range, isa.Wrong and isa.Encode. The contract of isa.Encode. The contract of isa.Find. The contract of isa.Decode. -/
import Derived.Test.YtabepbaldadmgaaDoorIsaLeaf
import Derived.Laws.Rows
namespace Go.Proofs.YtabepbaldadmgaaDoor.Isa
open Go.RowKit

theorem below_draws {B : Nat} {a w : World} (h : Below B a w) (n : Nat) : Below B a (w.drewN n) := below_drewN h n

/-- What Info tells. -/
def infoName (k : Int) : ByteArray := if knownB k then opName k else ⟨#[]⟩
def infoShape (k : Int) : Int := if knownB k then opShape k else 0

theorem info_any (k : Int) (w : World) (hL : Laid w) :
    Calls Tryd.prog 60 #[.int .i64 k] w fun e w' => e = .returned (.tuple #[.string (infoName k), .int .i64 (infoShape k)]) ∧ Below w.heap.size w w' := by
  cases hk : knownB k
  · have e1 : infoName k = ⟨#[]⟩ := by simp [infoName, hk]
    have e2 : infoShape k = 0 := by simp [infoShape, hk]
    rw [e1, e2]
    clear e1 e2
    go_enter Tryd.func60, Tryd.ntmps60
    go_wp2_with (go_at_call 54; refine (known_any _ _).mono ?_; rintro e w' ⟨rfl, rfl⟩)
    go_ret2
    exact ⟨rfl, Below.refl _ _⟩
  · have e1 : infoName k = opName k := by simp [infoName, hk]
    have e2 : infoShape k = opShape k := by simp [infoShape, hk]
    rw [e1, e2]
    clear e1 e2
    have hk' := hk
    simp [knownB, withinB] at hk'
    have c0 := hL.o0 k (by omega) (by omega)
    have c1 := hL.o1 k (by omega) (by omega)
    obtain ⟨hk1, hk2⟩ := hk'
    go_enter Tryd.func60, Tryd.ntmps60
    go_wp2_with (go_at_call 54; refine (known_any _ _).mono ?_; rintro e w' ⟨rfl, rfl⟩)
    go_quiet (fail)
    go_wp2
    go_ret2
    exact ⟨rfl, below_draws (Below.refl _ _) _⟩

/-- What is wrong with an instruction. -/
def wrongI (op n m imm : Int) : Int :=
  if knownB op = true then (if withinB n 0 (layN (opShape op)) = true ∧ withinB m 0 (layM (opShape op)) = true ∧ withinB imm (layLow (opShape op)) (layHigh (opShape op)) = true then 0 else 3) else 1

end Go.Proofs.YtabepbaldadmgaaDoor.Isa

namespace Go.Proofs.YtabepbaldadmgaaDoor.Isa
open Go.RowKit

/-- The half word of an instruction that may be. -/
def encI (op n m imm : Int) : Int :=
  bits .or .i64 (bits .or .i64 (bits .or .i64 (opBits op) (IntKind.i64.wrap (n * 256))) (IntKind.i64.wrap (m * 16))) (bits .and .i64 imm (layHigh (opShape op) - layLow (opShape op)))

theorem lay_bd (s : Int) : -4096 ≤ layLow s ∧ layLow s ≤ 4096 ∧ -4096 ≤ layHigh s ∧ layHigh s ≤ 4096 := by
  by_cases h : 0 ≤ s ∧ s ≤ 11
  · obtain ⟨k, hk⟩ : ∃ k : Nat, s = k := ⟨s.toNat, by omega⟩
    subst hk
    have hk : k < 12 := by omega
    have h' : ∀ j : Fin 12, -4096 ≤ layLow (j.val : Int) ∧ layLow (j.val : Int) ≤ 4096 ∧ -4096 ≤ layHigh (j.val : Int) ∧ layHigh (j.val : Int) ≤ 4096 := by decide
    exact h' ⟨k, hk⟩
  · obtain ⟨_, _, e2, e3⟩ := lay_out h
    rw [e2, e3]; omega

/-- The cells that Encode's last statement reads stay, behind a callee that writes nothing old. -/
theorem keepE {w w1 w2 : World} {B C B1 : Nat} {a b c d e : Value} (hb : Below B1 w1 w2) (hB : B < B1) (hC : C < B1)
    (h : B < w1.heap.size ∧ C < w1.heap.size ∧ w1.cell? ⟨B, 1, none⟩ = some a ∧ w1.cell? ⟨B, 2, none⟩ = some b ∧ w1.cell? ⟨B, 3, none⟩ = some c ∧ w1.cell? ⟨C, 1, none⟩ = some d ∧ w1.cell? ⟨C, 2, none⟩ = some e ∧ Below B w w1) :
    B < w2.heap.size ∧ C < w2.heap.size ∧ w2.cell? ⟨B, 1, none⟩ = some a ∧ w2.cell? ⟨B, 2, none⟩ = some b ∧ w2.cell? ⟨B, 3, none⟩ = some c ∧ w2.cell? ⟨C, 1, none⟩ = some d ∧ w2.cell? ⟨C, 2, none⟩ = some e ∧ Below B w w2 := by
  obtain ⟨h0, h1, h2, h3, h4, h5, h6, h7⟩ := h
  exact ⟨Nat.lt_of_lt_of_le h0 hb.size, Nat.lt_of_lt_of_le h1 hb.size, by rw [hb.cell hB]; exact h2, by rw [hb.cell hB]; exact h3, by rw [hb.cell hB]; exact h4, by rw [hb.cell hC]; exact h5, by rw [hb.cell hC]; exact h6, h7.trans (hb.mono (by omega))⟩

theorem laidE {w w1 : World} {C : Nat} {a b c d e : Value} (hL : Laid w) 
    (h : w.heap.size < w1.heap.size ∧ C < w1.heap.size ∧ w1.cell? ⟨w.heap.size, 1, none⟩ = some a ∧ w1.cell? ⟨w.heap.size, 2, none⟩ = some b ∧ w1.cell? ⟨w.heap.size, 3, none⟩ = some c ∧ w1.cell? ⟨C, 1, none⟩ = some d ∧ w1.cell? ⟨C, 2, none⟩ = some e ∧ Below w.heap.size w w1) : Laid w1 :=
  hL.below h.2.2.2.2.2.2.2 hL.sz

theorem startE {w w1 : World} {x a b c d e : Value} (hB : Below w.heap.size w w1) (hz : w.heap.size < w1.heap.size)
    (h1 : w1.cell? ⟨w.heap.size, 1, none⟩ = some a) (h2 : w1.cell? ⟨w.heap.size, 2, none⟩ = some b) (h3 : w1.cell? ⟨w.heap.size, 3, none⟩ = some c) :
    w.heap.size < (w1.alloc (.cells #[x, d, e] 89)).drew.heap.size ∧ w1.heap.size < (w1.alloc (.cells #[x, d, e] 89)).drew.heap.size ∧ (w1.alloc (.cells #[x, d, e] 89)).drew.cell? ⟨w.heap.size, 1, none⟩ = some a ∧ (w1.alloc (.cells #[x, d, e] 89)).drew.cell? ⟨w.heap.size, 2, none⟩ = some b ∧ (w1.alloc (.cells #[x, d, e] 89)).drew.cell? ⟨w.heap.size, 3, none⟩ = some c ∧ (w1.alloc (.cells #[x, d, e] 89)).drew.cell? ⟨w1.heap.size, 1, none⟩ = some d ∧ (w1.alloc (.cells #[x, d, e] 89)).drew.cell? ⟨w1.heap.size, 2, none⟩ = some e ∧ Below w.heap.size w (w1.alloc (.cells #[x, d, e] 89)).drew := by
  refine ⟨?_, ?_, ?_, ?_, ?_, ?_, ?_, (hB.alloc hB.size _).drew⟩
  · simp; omega
  · simp
  · simp; rw [World.cell?_alloc_lt _ _ _ (by simpa using hz)]; exact h1
  · simp; rw [World.cell?_alloc_lt _ _ _ (by simpa using hz)]; exact h2
  · simp; rw [World.cell?_alloc_lt _ _ _ (by simpa using hz)]; exact h3
  · simp
  · simp

theorem wrongI_zero {op n m imm : Int} (h : wrongI op n m imm = 0) : 1 ≤ op ∧ op ≤ 27 ∧ 0 ≤ n ∧ n ≤ layN (opShape op) ∧ 0 ≤ m ∧ m ≤ layM (opShape op) ∧ layLow (opShape op) ≤ imm ∧ imm ≤ layHigh (opShape op) := by
  unfold wrongI at h
  by_cases hk : knownB op = true
  · rw [if_pos hk] at h
    by_cases h3 : withinB n 0 (layN (opShape op)) = true ∧ withinB m 0 (layM (opShape op)) = true ∧ withinB imm (layLow (opShape op)) (layHigh (opShape op)) = true
    · simp [knownB, withinB] at hk h3
      omega
    · rw [if_neg h3] at h
      simp at h
  · rw [if_neg hk] at h
    simp at h

/-- What Encode tells: the half word, or 0. -/
def encW (op n m imm : Int) : Int := if wrongI op n m imm = 0 then encI op n m imm else 0

end Go.Proofs.YtabepbaldadmgaaDoor.Isa

namespace Go.Proofs.YtabepbaldadmgaaDoor.Isa
open Go.RowKit

/-- A row of the table 'operations' as a value. -/
def opV (k : Int) : Value := .agg #[.string (opName k), .int .i64 (opShape k), .int .i64 (opBits k)]

set_option maxRecDepth 100000 in
theorem opIndexAll (w : World) : ((List.range 28).map fun k : Nat => (Instr.index 90 (.agg opCells) (.int .i64 (k : Int))).run Tryd.prog w) = (List.range 28).map fun k : Nat => .ok (opV (k : Int)) w := by kernel_rfl

theorem opIndex (k : Nat) (hk : k < 28) (w : World) : (Instr.index 90 (.agg opCells) (.int .i64 (k : Int))).run Tryd.prog w = .ok (.agg #[.string (opName k), .int .i64 (opShape k), .int .i64 (opBits k)]) w := by
  have h := congrArg (fun l => l[k]?) (opIndexAll w)
  simpa [hk, opV] using h

theorem opSize : (Tryd.prog.info? 90).map (·.size) = some opCells.size := by kernel_rfl

/-- Which op, from k on, has this name and shape: 0, if none has. -/
def findFrom (name : ByteArray) (shape : Int) : Nat → Nat → Int
  | 0, _ => 0
  | fuel + 1, k => if knownB k = true ∧ (opName k).toList = name.toList ∧ opShape k = shape then (k : Int) else findFrom name shape fuel (k + 1)

theorem find_yes {name : ByteArray} {shape : Int} {k : Nat} (hk : k < 28) (hf : findFrom name shape 28 0 = findFrom name shape (28 - k) k) (h1 : knownB k = true) (h2 : (opName k).toList = name.toList) (h3 : (opShape k == shape) = true) : findFrom name shape 28 0 = (k : Int) := by
  rw [hf]
  obtain ⟨j, hj⟩ : ∃ j, 28 - k = j + 1 := ⟨27 - k, by omega⟩
  rw [hj]
  unfold findFrom
  rw [if_pos ⟨h1, h2, by simpa using h3⟩]

theorem find_no {name : ByteArray} {shape : Int} {k : Nat} (hk : k < 28) (hf : findFrom name shape 28 0 = findFrom name shape (28 - k) k) (h : ¬ (knownB k = true ∧ (opName k).toList = name.toList ∧ opShape k = shape)) : findFrom name shape 28 0 = findFrom name shape (28 - (k + 1)) (k + 1) := by
  rw [hf]
  obtain ⟨j, hj⟩ : ∃ j, 28 - k = j + 1 := ⟨27 - k, by omega⟩
  have hj' : 28 - (k + 1) = j := by omega
  rw [hj, hj']
  rw [findFrom, if_neg h]

end Go.Proofs.YtabepbaldadmgaaDoor.Isa

namespace Go.Proofs.YtabepbaldadmgaaDoor.Isa
open Go.RowKit

/-- The bits of op k's operands. -/
def maskOf (k : Int) : Int := opMask (layN (opShape k)) (layM (opShape k)) (layLow (opShape k)) (layHigh (opShape k))
/-- Is half word x an instruction of op k? -/
def decHit (x k : Int) : Bool := knownB k && (bits .andNot .i64 x (maskOf k) == opBits k)
/-- Which op, from k on, is written so: 0, if none is. -/
def decFrom (x : Int) : Nat → Nat → Int
  | 0, _ => 0
  | fuel + 1, k => if decHit x k = true then (k : Int) else decFrom x fuel (k + 1)

theorem dec_yes {x : Int} {k : Nat} (hk : k < 28) (hf : decFrom x 28 0 = decFrom x (28 - k) k) (h : decHit x k = true) : decFrom x 28 0 = (k : Int) := by
  rw [hf]
  obtain ⟨j, hj⟩ : ∃ j, 28 - k = j + 1 := ⟨27 - k, by omega⟩
  rw [hj, decFrom, if_pos h]

theorem dec_no {x : Int} {k : Nat} (hk : k < 28) (hf : decFrom x 28 0 = decFrom x (28 - k) k) (h : decHit x k = false) : decFrom x 28 0 = decFrom x (28 - (k + 1)) (k + 1) := by
  rw [hf]
  obtain ⟨j, hj⟩ : ∃ j, 28 - k = j + 1 := ⟨27 - k, by omega⟩
  have hj' : 28 - (k + 1) = j := by omega
  rw [hj, hj', decFrom, if_neg (by simp [h])]

/-- What Decode tells of a half word: the instruction's value, and the error. -/
def decV (x : Int) : Value :=
  if withinB x 0 65535 = true ∧ decFrom x 28 0 ≠ 0 then rdV (layN (opShape (decFrom x 28 0))) (layM (opShape (decFrom x 28 0))) (layLow (opShape (decFrom x 28 0))) (layHigh (opShape (decFrom x 28 0))) (decFrom x 28 0) x
  else .agg #[.int .i64 0, .int .i64 0, .int .i64 0, .int .i64 0]
def decE (x : Int) : Int := if withinB x 0 65535 = true then (if decFrom x 28 0 = 0 then 12 else 0) else 3

/-- The cells that Decode's test reads stay, behind a callee that writes nothing old. -/
theorem keepD {w0 w1 w2 : World} {B C B0 B1 : Nat} {a b c d e : Value} (hb : Below B1 w1 w2) (hB : B < B1) (hC : C < B1) (h0 : B0 ≤ B1)
    (h : B < w1.heap.size ∧ C < w1.heap.size ∧ w1.cell? ⟨B, 2, none⟩ = some a ∧ w1.cell? ⟨C, 0, none⟩ = some b ∧ w1.cell? ⟨C, 1, none⟩ = some c ∧ w1.cell? ⟨C, 2, none⟩ = some d ∧ w1.cell? ⟨C, 3, none⟩ = some e ∧ Below B0 w0 w1) :
    B < w2.heap.size ∧ C < w2.heap.size ∧ w2.cell? ⟨B, 2, none⟩ = some a ∧ w2.cell? ⟨C, 0, none⟩ = some b ∧ w2.cell? ⟨C, 1, none⟩ = some c ∧ w2.cell? ⟨C, 2, none⟩ = some d ∧ w2.cell? ⟨C, 3, none⟩ = some e ∧ Below B0 w0 w2 := by
  obtain ⟨h0, h1, h2, h3, h4, h5, h6, h7⟩ := h
  exact ⟨Nat.lt_of_lt_of_le h0 hb.size, Nat.lt_of_lt_of_le h1 hb.size, by rw [hb.cell hB]; exact h2, by rw [hb.cell hC]; exact h3, by rw [hb.cell hC]; exact h4, by rw [hb.cell hC]; exact h5, by rw [hb.cell hC]; exact h6, h7.trans (hb.mono (by omega))⟩

theorem startD {w0 w1 : World} {B B0 : Nat} {a b c d e : Value} (hB : Below B0 w0 w1) (h0 : B0 ≤ w1.heap.size) (hz : B < w1.heap.size) (h1 : w1.cell? ⟨B, 2, none⟩ = some a) :
    B < (w1.alloc (.cells #[b, c, d, e] 92)).drew.heap.size ∧ w1.heap.size < (w1.alloc (.cells #[b, c, d, e] 92)).drew.heap.size ∧ (w1.alloc (.cells #[b, c, d, e] 92)).drew.cell? ⟨B, 2, none⟩ = some a ∧ (w1.alloc (.cells #[b, c, d, e] 92)).drew.cell? ⟨w1.heap.size, 0, none⟩ = some b ∧ (w1.alloc (.cells #[b, c, d, e] 92)).drew.cell? ⟨w1.heap.size, 1, none⟩ = some c ∧ (w1.alloc (.cells #[b, c, d, e] 92)).drew.cell? ⟨w1.heap.size, 2, none⟩ = some d ∧ (w1.alloc (.cells #[b, c, d, e] 92)).drew.cell? ⟨w1.heap.size, 3, none⟩ = some e ∧ Below B0 w0 (w1.alloc (.cells #[b, c, d, e] 92)).drew := by
  refine ⟨?_, ?_, ?_, ?_, ?_, ?_, ?_, (hB.alloc h0 _).drew⟩
  · simp; omega
  · simp
  · simp; rw [World.cell?_alloc_lt _ _ _ (by simpa using hz)]; exact h1
  · simp
  · simp
  · simp
  · simp

theorem known_yes (a : Int) (w : World) (h : knownB a = true) : Calls Tryd.prog 54 #[.int .i64 a] w fun e w' => e = .returned (.bool true) ∧ w' = w := by
  have := known_any a w
  rwa [h] at this
theorem known_no (a : Int) (w : World) (h : knownB a = false) : Calls Tryd.prog 54 #[.int .i64 a] w fun e w' => e = .returned (.bool false) ∧ w' = w := by
  have := known_any a w
  rwa [h] at this

theorem bcellB {B : Nat} {W w1 : World} (hb : Below B W w1) : (∀ b o, b < B → w1.cell? ⟨b, o, none⟩ = W.cell? ⟨b, o, none⟩) ∧ (∀ b o, b < B → w1.frozen? ⟨b, o, none⟩ = W.frozen? ⟨b, o, none⟩) :=
  ⟨fun b o h => hb.cell (p := ⟨b, o, none⟩) h, fun b o h => hb.frozen (p := ⟨b, o, none⟩) h⟩

theorem decV_hit {x : Int} {k : Nat} (hk : k < 28) (hw : withinB x 0 65535 = true) (hf : decFrom x 28 0 = decFrom x (28 - k) k) (h : decHit x k = true) :
    decV x = rdV (layN (opShape k)) (layM (opShape k)) (layLow (opShape k)) (layHigh (opShape k)) k x ∧ decE x = 0 := by
  have e := dec_yes hk hf h
  have h0 : (k : Int) ≠ 0 := by
    intro h0
    rw [h0] at h
    simp [decHit, knownB, withinB] at h
  unfold decV decE
  rw [e, if_pos ⟨hw, h0⟩, if_pos hw, if_neg h0]
  exact ⟨rfl, rfl⟩

theorem decV_none {x : Int} (hw : withinB x 0 65535 = true) (hf : decFrom x 28 0 = 0) :
    decV x = .agg #[.int .i64 0, .int .i64 0, .int .i64 0, .int .i64 0] ∧ decE x = 12 := by
  unfold decV decE
  rw [hf, if_neg (by simp), if_pos hw, if_pos rfl]
  exact ⟨rfl, rfl⟩

theorem decode_out (x : Int) (w : World) (hw : withinB x 0 65535 = false) :
    Calls Tryd.prog 41 #[.int .i64 x] w fun e w' => e = .returned (.tuple #[.agg #[.int .i64 0, .int .i64 0, .int .i64 0, .int .i64 0], .int .i64 3]) ∧ Below w.heap.size w w' := by
  go_enter Tryd.func41, Tryd.ntmps41
  go_wp2_with (go_at_call 52; refine (within_any _ _ _ _).mono ?_; rintro e w' ⟨rfl, rfl⟩)
  exact bodyPost_ret (v := .tuple #[.agg #[.int .i64 0, .int .i64 0, .int .i64 0, .int .i64 0], .int .i64 3]) (by simp [results, Tryd.results41, go_sem]) rfl ⟨rfl, (Below.refl _ _).alloc (Nat.le_refl _) _⟩

set_option maxHeartbeats 1000000 in
theorem decode_in (x : Int) (w : World) (hL : Laid w) (hw : withinB x 0 65535 = true) :
    Calls Tryd.prog 41 #[.int .i64 x] w fun e w' => e = .returned (.tuple #[decV x, .int .i64 (decE x)]) ∧ Below w.heap.size w w' := by
  have hs := hL.sz
  have hL0 := hL.below ((Below.refl w.heap.size w).alloc (Nat.le_refl _) (.cells #[.int .i64 0, .int .i64 0, .int .i64 0, .int .i64 0] 45)) hs
  obtain ⟨t, fr, hblk⟩ := hL0.blk
  go_enter Tryd.func41, Tryd.ntmps41
  go_wp2_with (first | (go_at_call 52; refine (within_any _ _ _ _).mono ?_; rintro e w' ⟨rfl, rfl⟩) | (refine wpList_load_row rfl 90 _ rfl 0 rfl t opCells fr _ hblk Tryd.underlying90 rfl opSize ?_))
  clear hblk
  go_loopw [12] (fun i wr => ∃ k : Nat, k ≤ 28 ∧ i = .int .i64 k ∧ Below (w.heap.size + 1) (w.alloc (.cells #[.int .i64 0, .int .i64 0, .int .i64 0, .int .i64 0] 45)) wr ∧ Hid (decFrom x 28 0 = decFrom x (28 - k) k)) (fun i _ => 28 - (intOf i).toNat)
  case atStart => exact ⟨0, Nat.zero_le _, rfl, Below.refl _ _, rfl⟩
  case round =>
    obtain ⟨k, hk, rfl, hB, HF⟩ := hrel
    by_cases hlt : k < 28
    · have hi := opIndex k hlt
      have hk' : (k : Int) < 28 := by omega
      have hsz : w.heap.size + 1 ≤ wr.heap.size := by have := hB.size; simpa using this
      have H1 := (hL0.below hB (by omega)).below ((Below.refl wr.heap.size wr).alloc (Nat.le_refl _) (.cells #[.string (opName k), .int .i64 (opShape k), .int .i64 (opBits k)] 89)) (by omega)
      obtain ⟨l1, l2, l3, l4⟩ := lay_bd (opShape k)
      go_wp2_with fail
      refine (layoutOf_any _ _ H1).mono ?_
      rintro e w1 ⟨rfl, hb1⟩
      unfold layV
      have hz0 : wr.heap.size < w1.heap.size := by have := hb1.size; simp at this; omega
      have k2 : w1.cell? ⟨wr.heap.size, 2, none⟩ = some (.int .i64 (opBits k)) := by rw [hb1.cell (by simp)]; simp
      have hB1 := (hB.alloc hsz (.cells #[.string (opName k), .int .i64 (opShape k), .int .i64 (opBits k)] 89)).trans (hb1.mono (by simp; omega))
      clear hb1 H1 hi
      go_wp2_with fail
      cases hkn : knownB k
      · have HN : Hid (decHit x k = false) := by simp [Hid, decHit, hkn]
        have HC : Hid (knownB k = false) := hkn
        clear hkn
        go_quiet ((go_at_call 54; exact Calls.quiet_of_same (known_no _ _ HC.out)))
        go_wp2
        exact ⟨⟨k + 1, by omega, by go_num, below_draws (hB1.alloc (by omega) _) _, dec_no hlt HF.out HN.out⟩, by simp [intOf]; omega⟩
      · have HC : Hid (knownB k = true) := hkn
        clear hkn
        go_region_held3 (fun w' => wr.heap.size < w'.heap.size ∧ w1.heap.size < w'.heap.size ∧ w'.cell? ⟨wr.heap.size, 2, none⟩ = some (.int .i64 (opBits k)) ∧ w'.cell? ⟨w1.heap.size, 0, none⟩ = some (.int .i64 (layN (opShape k))) ∧ w'.cell? ⟨w1.heap.size, 1, none⟩ = some (.int .i64 (layM (opShape k))) ∧ w'.cell? ⟨w1.heap.size, 2, none⟩ = some (.int .i64 (layLow (opShape k))) ∧ w'.cell? ⟨w1.heap.size, 3, none⟩ = some (.int .i64 (layHigh (opShape k))) ∧ Below (w.heap.size + 1) (w.alloc (.cells #[.int .i64 0, .int .i64 0, .int .i64 0, .int .i64 0] 45)) w')
          (first | assumption | exact keepD hb2 (by simp; omega) (by simp) (by simp; omega) (by assumption) | exact startD hB1 (by omega) hz0 k2)
          (first | (go_at_call 54; refine (known_yes _ _ HC.out).mono ?_; rintro e w' ⟨rfl, rfl⟩) | (go_at_call 55; refine (operands_any _ _ _ _ _ l1 l2 l3 l4).mono ?_; rintro e w' ⟨rfl, hb2⟩))
        rename_i hH
        obtain ⟨g0, g1, g2, g3, g4, g5, g6, hB2⟩ := hH
        clear hb2 hB1 hB
        cases hh : (bits .andNot .i64 x (opMask (layN (opShape k)) (layM (opShape k)) (layLow (opShape k)) (layHigh (opShape k))) == opBits k)
        · have HN : Hid (decHit x k = false) := by simp only [Hid, decHit, maskOf, hh, Bool.and_false]
          go_wp2
          exact ⟨⟨k + 1, by omega, by go_num, hB2, dec_no hlt HF.out HN.out⟩, by simp [intOf]; omega⟩
        · have HV : Hid (decV x = rdV (layN (opShape k)) (layM (opShape k)) (layLow (opShape k)) (layHigh (opShape k)) k x ∧ decE x = 0) := decV_hit hlt hw HF.out (by simp only [decHit, maskOf, hh, HC.out, Bool.and_true])
          go_wp2_with fail
          refine (read_any _ _ _ _ _ _ _ l1 l2 l3 l4).mono ?_
          rintro e w3 ⟨rfl, hb3⟩
          have hB3 := hB2.trans (hb3.mono (by omega))
          obtain ⟨hc, hf⟩ := bcellB hB3
          have HB : Hid (Below w.heap.size w w3) := ((Below.refl w.heap.size w).alloc (Nat.le_refl _) _).trans (hB3.mono (by omega))
          clear hb3 hB2 hB3
          unfold rdV
          go_wp2
          refine bodyPost_ret (v := .tuple #[rdV (layN (opShape k)) (layM (opShape k)) (layLow (opShape k)) (layHigh (opShape k)) k x, .int .i64 0]) (by simp [results, Tryd.results41, go_sem, rdV, hc]) rfl ⟨by rw [HV.out.1, HV.out.2], ?_⟩
          exact (((HB.out.setCell (by simp) _).setCell (by simp) _).setCell (by simp) _).setCell (by simp) _
    · have hk' : ¬ (k : Int) < 28 := by omega
      have HV : Hid (decV x = .agg #[.int .i64 0, .int .i64 0, .int .i64 0, .int .i64 0] ∧ decE x = 12) := decV_none hw (by rw [HF.out, show 28 - k = 0 by omega]; rfl)
      obtain ⟨hc, hf⟩ := bcellB hB
      have HB : Hid (Below w.heap.size w wr) := ((Below.refl w.heap.size w).alloc (Nat.le_refl _) _).trans (hB.mono (by omega))
      clear hB
      go_wp2
      refine bodyPost_ret (v := .tuple #[.agg #[.int .i64 0, .int .i64 0, .int .i64 0, .int .i64 0], .int .i64 12]) (by simp [results, Tryd.results41, go_sem, hc]) rfl ⟨by rw [HV.out.1, HV.out.2], ?_⟩
      exact (((HB.out.setCell (by simp) _).setCell (by simp) _).setCell (by simp) _).setCell (by simp) _

theorem decode_any (x : Int) (w : World) (hL : Laid w) :
    Calls Tryd.prog 41 #[.int .i64 x] w fun e w' => e = .returned (.tuple #[decV x, .int .i64 (decE x)]) ∧ Below w.heap.size w w' := by
  cases hw : withinB x 0 65535
  · have e1 : decV x = .agg #[.int .i64 0, .int .i64 0, .int .i64 0, .int .i64 0] := by simp [decV, hw]
    have e2 : decE x = 3 := by simp [decE, hw]
    rw [e1, e2]
    exact decode_out x w hw
  · exact decode_in x w hL hw

end Go.Proofs.YtabepbaldadmgaaDoor.Isa
