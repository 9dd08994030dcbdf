/- Items of a unit, where they are laid, and what is written of them: functions of lists; no program in this text. An item is told by numbers and by what its bytes are made of; a value is a name (empty: none) and a number. The contract of isa.Find. The contract of isa.Decode. The contract of isa.Get: a number of at most six bytes. -/
import Derived.Test.YtbpoiajpcahdhaaGreatDoorObSpec
import Derived.Test.YtbpoiajpcahdhaaGreatDoorPut1
import Derived.Laws.Rows
namespace Go.Proofs.YtbpoiajpcahdhaaGreatDoor
open Go.RowKit

/-- Where an instruction leads: a value's place, or a value of a pool (the pool's number, and which value of it). -/
inductive Goal where
  | val (name : List UInt8) (n : Int)
  | slot (pool : Nat) (i : Nat)

/-- What an item's bytes are made of. -/
inductive Gen where
  | fill
  | num (name : List UInt8) (n : Int)
  | plain (op n m imm : Int)
  | lead (op n m imm : Int) (to : Goal)

structure It where
  line : Int
  size : Int
  upTo : Int
  align : Int
  gen : Gen

/-- All that is known of lines when they are read: labels in turn with the item that each stands ahead of, items, and which item each pool begins at (pools are told by a number each). -/
structure Un where
  labels : List (List UInt8 × Nat)
  items : List It
  firsts : Nat → Nat

def plainI (line op n m imm : Int) : It := ⟨line, 2, 1, 2, .plain op n m imm⟩
/-- Where each item begins, and where the last one ends. -/
def tellU : Int → List It → List Int
  | p, [] => [p]
  | p, x :: r => p :: tellU (p + (x.size + (x.upTo - p.tmod x.upTo).tmod x.upTo)) r

def labelAt (name : List UInt8) : List (List UInt8 × Nat) → Option Nat
  | [] => none
  | (a, k) :: r => if a = name then some k else labelAt name r

/-- Where a value is: 8 if it is a number, 6 if its name is no label. -/
def placeU (u : Un) (ps : List Int) (name : List UInt8) (n : Int) : Except Int Int :=
  if name = [] then .error 8
  else match labelAt name u.labels with
    | none => .error 6
    | some k => .ok (ps.getD k 0 + n)

def goalU (u : Un) (ps : List Int) : Goal → Except Int Int
  | .val name n => placeU u ps name n
  | .slot p i => .ok (ps.getD (u.firsts p + i) 0)

/-- How many bytes it is to a place, and how many of them a number counts as one. -/
def awayU (shape pos to : Int) : Int × Int :=
  if shape = 8 then (to - ((pos + 4) - (pos + 4).tmod 4), 4) else (to - (pos + 4), 2)

def nearU (pos to : Int) : Bool := decide (-128 * 2 ≤ (awayU 4 pos to).1 ∧ (awayU 4 pos to).1 ≤ 127 * 2)

/-- Whether an item of that place must be long. -/
def farU (u : Un) (ps : List Int) (pos : Int) : Gen → Bool
  | .lead op _ _ _ to => if Isa.infoShape op = 4 then (match goalU u ps to with | .ok p => !(nearU pos p) | .error _ => false) else false
  | _ => false

def ledU (op pos to : Int) : Except Int Int :=
  if ((awayU (Isa.infoShape op) pos to).1).tmod (awayU (Isa.infoShape op) pos to).2 ≠ 0 then .error 11
  else .ok (((awayU (Isa.infoShape op) pos to).1).tdiv (awayU (Isa.infoShape op) pos to).2)

def half (n : Int) : List UInt8 := [lowB (n / 256), lowB n]

/-- One instruction's bytes. -/
def encU (op n m imm : Int) : Except Int (List UInt8) :=
  if Isa.wrongI op n m imm = 0 then .ok (half (Isa.encI op n m imm)) else .error (Isa.wrongI op n m imm)

def longB (op pos to : Int) : Except Int (List UInt8) :=
  match ledU 19 (pos + 2) to with
  | .error e => .error e
  | .ok d =>
    match encU (if op = 17 then 18 else 17) 0 0 1 with
    | .error e => .error e
    | .ok a =>
      match encU 19 0 0 d with
      | .error e => .error e
      | .ok b =>
        match encU 1 0 0 0 with
        | .error e => .error e
        | .ok c => .ok (a ++ (b ++ c))

/-- A number's bytes: so many. -/
def putU (size n : Int) : List UInt8 := if size = 1 then [lowB n] else if size = 2 then half n else be4 n

/-- An item's bytes, and the relocs behind it. -/
def bytesU (u : Un) (ps : List Int) (pos size : Int) (rs : List Re) (x : It) : Except Int (List UInt8 × List Re) :=
  match x.gen with
  | .fill => .ok (List.replicate size.toNat 0, rs)
  | .num name n =>
    if name = [] then .ok (putU x.size n, rs)
    else match placeU u ps name n with
      | .ok p => .ok (List.replicate x.size.toNat 0, rs ++ [⟨pos, x.size, [], wrap32 p⟩])
      | .error _ => .ok (List.replicate x.size.toNat 0, rs ++ [⟨pos, x.size, name, n⟩])
  | .plain op n m imm => (encU op n m imm).map fun b => (b, rs)
  | .lead op n m _ to =>
    match goalU u ps to with
    | .error e => .error e
    | .ok p =>
      if size = 6 then (longB op pos p).map fun b => (b, rs)
      else match ledU op pos p with
        | .error e => .error e
        | .ok d => (encU op n m d).map fun b => (b, rs)

/-- All items' bytes and relocs, or an error at a line; k: where the first one stands. -/
def writeU (u : Un) (ps : List Int) : Nat → List UInt8 → List Re → List It → Except (Int × Int) (List UInt8 × List Re)
  | _, code, rs, [] => .ok (code, rs)
  | k, code, rs, x :: r =>
    if (ps.getD k 0).tmod x.align ≠ 0 then .error (11, x.line)
    else match bytesU u ps (ps.getD k 0) (ps.getD (k + 1) 0 - ps.getD k 0) rs x with
      | .error e => .error (e, x.line)
      | .ok (b, rs') => writeU u ps (k + 1) (code ++ b) rs' r

def symsU (u : Un) (ps : List Int) : List Sy := u.labels.map fun a => ⟨a.1, ps.getD a.2 0⟩

/-! Numbers of .long, one behind the other. -/

theorem tell_len : ∀ (l : List It) (p : Int), (tellU p l).length = l.length + 1
  | [], p => rfl
  | x :: r, p => by simp [tellU, tell_len r]

/-! The two units that are asked for ahead of all else. -/

end Go.Proofs.YtbpoiajpcahdhaaGreatDoor

namespace Go.Proofs.YtbpoiajpcahdhaaGreatDoor.Isa
open Go.RowKit

/-- A row of the table 'operations' as a value. -/
def opV (k : Int) : Value := .agg #[.string (opName k), .int .i64 (opShape k), .int .i64 (opBits k)]

set_option maxRecDepth 100000 in
theorem opIndexAll (w : World) : ((List.range 28).map fun k : Nat => (Instr.index 330 (.agg opCells) (.int .i64 (k : Int))).run Tryz.prog w) = (List.range 28).map fun k : Nat => .ok (opV (k : Int)) w := by kernel_rfl

theorem opIndex (k : Nat) (hk : k < 28) (w : World) : (Instr.index 330 (.agg opCells) (.int .i64 (k : Int))).run Tryz.prog w = .ok (.agg #[.string (opName k), .int .i64 (opShape k), .int .i64 (opBits k)]) w := by
  have h := congrArg (fun l => l[k]?) (opIndexAll w)
  simpa [hk, opV] using h

theorem opSize : (Tryz.prog.info? 330).map (·.size) = some opCells.size := by kernel_rfl

/-- Which op, from k on, has this name and shape: 0, if none has. -/
def findFrom (name : ByteArray) (shape : Int) : Nat → Nat → Int
  | 0, _ => 0
  | fuel + 1, k => if knownB k = true ∧ (opName k).toList = name.toList ∧ opShape k = shape then (k : Int) else findFrom name shape fuel (k + 1)

theorem find_yes {name : ByteArray} {shape : Int} {k : Nat} (hk : k < 28) (hf : findFrom name shape 28 0 = findFrom name shape (28 - k) k) (h1 : knownB k = true) (h2 : (opName k).toList = name.toList) (h3 : (opShape k == shape) = true) : findFrom name shape 28 0 = (k : Int) := by
  rw [hf]
  obtain ⟨j, hj⟩ : ∃ j, 28 - k = j + 1 := ⟨27 - k, by omega⟩
  rw [hj]
  unfold findFrom
  rw [if_pos ⟨h1, h2, by simpa using h3⟩]

theorem find_no {name : ByteArray} {shape : Int} {k : Nat} (hk : k < 28) (hf : findFrom name shape 28 0 = findFrom name shape (28 - k) k) (h : ¬ (knownB k = true ∧ (opName k).toList = name.toList ∧ opShape k = shape)) : findFrom name shape 28 0 = findFrom name shape (28 - (k + 1)) (k + 1) := by
  rw [hf]
  obtain ⟨j, hj⟩ : ∃ j, 28 - k = j + 1 := ⟨27 - k, by omega⟩
  have hj' : 28 - (k + 1) = j := by omega
  rw [hj, hj']
  rw [findFrom, if_neg h]

theorem find_any (name : ByteArray) (shape : Int) (w : World) (hL : Laid w) :
    Calls Tryz.prog 201 #[.string name, .int .i64 shape] w fun e w' => e = .returned (.int .i64 (findFrom name shape 28 0)) ∧ Below w.heap.size w w' := by
  obtain ⟨t, fr, hblk⟩ := hL.blk
  go_enter Tryz.func201, Tryz.ntmps201
  go_wp2_with (refine wpList_load_row rfl 330 _ rfl 5 rfl t opCells fr _ hblk Tryz.underlying330 rfl opSize ?_)
  clear hblk
  go_loopw [8] (fun i wr => ∃ k : Nat, k ≤ 28 ∧ i = .int .i64 k ∧ Below w.heap.size w wr ∧ Hid (findFrom name shape 28 0 = findFrom name shape (28 - k) k)) (fun i _ => 28 - (intOf i).toNat)
  case atStart => exact ⟨0, Nat.zero_le _, rfl, Below.refl _ _, rfl⟩
  case round =>
    obtain ⟨k, hk, rfl, hB, HF⟩ := hrel
    by_cases hlt : k < 28
    · have hi := opIndex k hlt
      have hk' : (k : Int) < 28 := by omega
      cases hkn : knownB k
      · go_wp2_with (go_at_call 228; refine (known_any _ _).mono ?_; rintro e w' ⟨rfl, rfl⟩)
        exact ⟨⟨k + 1, by omega, by go_num, hB.alloc hB.size _, find_no hlt HF.out (by simp [hkn])⟩, by simp [intOf]; omega⟩
      · go_wp2_with (go_at_call 228; refine (known_any _ _).mono ?_; rintro e w' ⟨rfl, rfl⟩)
        · have h2 : (opName k).toList = name.toList := by assumption
          have h3 : (opShape k == shape) = true := by assumption
          have hfin := find_yes hlt HF.out hkn h2 h3
          go_ret
          exact ⟨ret_int hfin.symm, hB.alloc hB.size _⟩
        · have h3 : (opShape k == shape) = false := by assumption
          exact ⟨⟨k + 1, by omega, by go_num, hB.alloc hB.size _, find_no hlt HF.out (by simp at h3; simp [h3])⟩, by simp [intOf]; omega⟩
        · have h2 : ¬ (opName k).toList = name.toList := by assumption
          exact ⟨⟨k + 1, by omega, by go_num, hB.alloc hB.size _, find_no hlt HF.out (by simp [h2])⟩, by simp [intOf]; omega⟩
    · have hk' : ¬ (k : Int) < 28 := by omega
      have hfin : findFrom name shape 28 0 = 0 := by
        rw [HF.out, show 28 - k = 0 by omega]; rfl
      have HX : Hid (findFrom name shape 28 0 = 0) := hfin
      clear hfin
      go_wp2
      go_ret
      exact ⟨ret_int HX.out.symm, hB⟩

end Go.Proofs.YtbpoiajpcahdhaaGreatDoor.Isa

namespace Go.Proofs.YtbpoiajpcahdhaaGreatDoor.Isa
open Go.RowKit

end Go.Proofs.YtbpoiajpcahdhaaGreatDoor.Isa

namespace Go.Proofs.YtbpoiajpcahdhaaGreatDoor.Isa
open Go.RowKit

end Go.Proofs.YtbpoiajpcahdhaaGreatDoor.Isa
