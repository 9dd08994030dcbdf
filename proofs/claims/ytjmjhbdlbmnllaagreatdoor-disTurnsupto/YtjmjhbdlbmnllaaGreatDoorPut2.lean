/- Items of a unit, where they are laid, and what is written of them: functions of lists; no program in this text. An item is told by numbers and by what its bytes are made of; a value is a name (empty: none) and a number. A branch over many half words: what comes of it; no program in this text. A branch back, with items behind it: what comes of it; no program in this text. -/
import Derived.Test.YtjmjhbdlbmnllaaGreatDoorObSpec
import Derived.Test.YtjmjhbdlbmnllaaGreatDoorPut1
namespace Go.Proofs.YtjmjhbdlbmnllaaGreatDoor
open Go.RowKit

/-- Where an instruction leads: a value's place, or a value of a pool (the pool's number, and which value of it). -/
inductive Goal where
  | val (name : List UInt8) (n : Int)
  | slot (pool : Nat) (i : Nat)

/-- What an item's bytes are made of. -/
inductive Gen where
  | fill
  | num (name : List UInt8) (n : Int)
  | plain (op n m imm : Int)
  | lead (op n m imm : Int) (to : Goal)

structure It where
  line : Int
  size : Int
  upTo : Int
  align : Int
  gen : Gen

/-- All that is known of lines when they are read: labels in turn with the item that each stands ahead of, items, and which item each pool begins at (pools are told by a number each). -/
structure Un where
  labels : List (List UInt8 × Nat)
  items : List It
  firsts : Nat → Nat

def fillI (line upTo : Int) : It := ⟨line, 0, upTo, 1, .fill⟩
def numI (line size : Int) (name : List UInt8) (n : Int) : It := ⟨line, size, 1, size, .num name n⟩
def plainI (line op n m imm : Int) : It := ⟨line, 2, 1, 2, .plain op n m imm⟩
def leadI (line op n m imm : Int) (to : Goal) : It := ⟨line, 2, 1, 2, .lead op n m imm to⟩

/-- Where each item begins, and where the last one ends. -/
def tellU : Int → List It → List Int
  | p, [] => [p]
  | p, x :: r => p :: tellU (p + (x.size + (x.upTo - p.tmod x.upTo).tmod x.upTo)) r

def labelAt (name : List UInt8) : List (List UInt8 × Nat) → Option Nat
  | [] => none
  | (a, k) :: r => if a = name then some k else labelAt name r

/-- Where a value is: 8 if it is a number, 6 if its name is no label. -/
def placeU (u : Un) (ps : List Int) (name : List UInt8) (n : Int) : Except Int Int :=
  if name = [] then .error 8
  else match labelAt name u.labels with
    | none => .error 6
    | some k => .ok (ps.getD k 0 + n)

def goalU (u : Un) (ps : List Int) : Goal → Except Int Int
  | .val name n => placeU u ps name n
  | .slot p i => .ok (ps.getD (u.firsts p + i) 0)

/-- How many bytes it is to a place, and how many of them a number counts as one. -/
def awayU (shape pos to : Int) : Int × Int :=
  if shape = 8 then (to - ((pos + 4) - (pos + 4).tmod 4), 4) else (to - (pos + 4), 2)

def nearU (pos to : Int) : Bool := decide (-128 * 2 ≤ (awayU 4 pos to).1 ∧ (awayU 4 pos to).1 ≤ 127 * 2)

/-- Whether an item of that place must be long. -/
def farU (u : Un) (ps : List Int) (pos : Int) : Gen → Bool
  | .lead op _ _ _ to => if Isa.infoShape op = 4 then (match goalU u ps to with | .ok p => !(nearU pos p) | .error _ => false) else false
  | _ => false

/-- The items with those long that must be, and whether there are such; k: where the first one stands. -/
def longU (u : Un) (ps : List Int) : Nat → List It → List It × Bool
  | _, [] => ([], false)
  | k, x :: r =>
    if x.size < 6 ∧ farU u ps (ps.getD k 0) x.gen = true then ({ x with size := 6 } :: (longU u ps (k + 1) r).1, true)
    else (x :: (longU u ps (k + 1) r).1, (longU u ps (k + 1) r).2)

/-- All places told and branches made long: with fuel. -/
def layU : Nat → Un → Option (Except Int (Un × List Int))
  | 0, _ => none
  | f + 1, u =>
    let ps := tellU 0 u.items
    if 8000 < ps.getLastD 0 then some (.error 4)
    else if (longU u ps 0 u.items).2 = true then layU f { u with items := (longU u ps 0 u.items).1 }
    else some (.ok (u, ps))

def ledU (op pos to : Int) : Except Int Int :=
  if ((awayU (Isa.infoShape op) pos to).1).tmod (awayU (Isa.infoShape op) pos to).2 ≠ 0 then .error 11
  else .ok (((awayU (Isa.infoShape op) pos to).1).tdiv (awayU (Isa.infoShape op) pos to).2)

def half (n : Int) : List UInt8 := [lowB (n / 256), lowB n]

/-- One instruction's bytes. -/
def encU (op n m imm : Int) : Except Int (List UInt8) :=
  if Isa.wrongI op n m imm = 0 then .ok (half (Isa.encI op n m imm)) else .error (Isa.wrongI op n m imm)

def longB (op pos to : Int) : Except Int (List UInt8) :=
  match ledU 19 (pos + 2) to with
  | .error e => .error e
  | .ok d =>
    match encU (if op = 17 then 18 else 17) 0 0 1 with
    | .error e => .error e
    | .ok a =>
      match encU 19 0 0 d with
      | .error e => .error e
      | .ok b =>
        match encU 1 0 0 0 with
        | .error e => .error e
        | .ok c => .ok (a ++ (b ++ c))

/-- A number's bytes: so many. -/
def putU (size n : Int) : List UInt8 := if size = 1 then [lowB n] else if size = 2 then half n else be4 n

/-- An item's bytes, and the relocs behind it. -/
def bytesU (u : Un) (ps : List Int) (pos size : Int) (rs : List Re) (x : It) : Except Int (List UInt8 × List Re) :=
  match x.gen with
  | .fill => .ok (List.replicate size.toNat 0, rs)
  | .num name n =>
    if name = [] then .ok (putU x.size n, rs)
    else match placeU u ps name n with
      | .ok p => .ok (List.replicate x.size.toNat 0, rs ++ [⟨pos, x.size, [], wrap32 p⟩])
      | .error _ => .ok (List.replicate x.size.toNat 0, rs ++ [⟨pos, x.size, name, n⟩])
  | .plain op n m imm => (encU op n m imm).map fun b => (b, rs)
  | .lead op n m _ to =>
    match goalU u ps to with
    | .error e => .error e
    | .ok p =>
      if size = 6 then (longB op pos p).map fun b => (b, rs)
      else match ledU op pos p with
        | .error e => .error e
        | .ok d => (encU op n m d).map fun b => (b, rs)

/-- All items' bytes and relocs, or an error at a line; k: where the first one stands. -/
def writeU (u : Un) (ps : List Int) : Nat → List UInt8 → List Re → List It → Except (Int × Int) (List UInt8 × List Re)
  | _, code, rs, [] => .ok (code, rs)
  | k, code, rs, x :: r =>
    if (ps.getD k 0).tmod x.align ≠ 0 then .error (11, x.line)
    else match bytesU u ps (ps.getD k 0) (ps.getD (k + 1) 0 - ps.getD k 0) rs x with
      | .error e => .error (e, x.line)
      | .ok (b, rs') => writeU u ps (k + 1) (code ++ b) rs' r

def symsU (u : Un) (ps : List Int) : List Sy := u.labels.map fun a => ⟨a.1, ps.getD a.2 0⟩

/-- A unit's object, or what is wrong and at which line (0: none). -/
def unitU (f : Nat) (u : Un) : Option (Except (Int × Int) Ob) :=
  match layU f u with
  | none => none
  | some (.error e) => some (.error (e, 0))
  | some (.ok (v, ps)) =>
    match writeU v ps 0 [] [] v.items with
    | .error e => some (.error e)
    | .ok (code, rs) => some (.ok ⟨code, symsU v ps, rs⟩)

/-! Numbers of .long, one behind the other. -/

theorem tell_len : ∀ (l : List It) (p : Int), (tellU p l).length = l.length + 1
  | [], p => rfl
  | x :: r, p => by simp [tellU, tell_len r]

/-! The two units that are asked for ahead of all else. -/

end Go.Proofs.YtjmjhbdlbmnllaaGreatDoor

namespace Go.Proofs.YtjmjhbdlbmnllaaGreatDoor
open Go.RowKit

end Go.Proofs.YtjmjhbdlbmnllaaGreatDoor

namespace Go.Proofs.YtjmjhbdlbmnllaaGreatDoor
open Go.RowKit

end Go.Proofs.YtjmjhbdlbmnllaaGreatDoor
