import Derived.Test.YtfmljailbebfgaaGreatDoorPut0
import Derived.Test.YtfmljailbebfgaaGreatDoorPut1
namespace Go.Proofs.YtfmljailbebfgaaGreatDoor
open Go.RowKit
inductive Goal where
 | val (name : List UInt8) (n : Int)
 | slot (pool : Nat) (i : Nat)
inductive Gen where
 | fill
 | num (name : List UInt8) (n : Int)
 | plain (op n m imm : Int)
 | lead (op n m imm : Int) (to : Goal)
structure It where
 line : Int
 size : Int
 upTo : Int
 align : Int
 gen : Gen
structure Un where
 labels : List (List UInt8 × Nat)
 items : List It
 firsts : Nat -> Nat
def qGA (line upTo : Int) : It := ⟨line, 0, upTo, 1, .fill⟩
def numI (line size : Int) (name : List UInt8) (n : Int) : It := ⟨line, size, 1, size, .num name n⟩
def qAG (line op n m imm : Int) : It := ⟨line, 2, 1, 2, .plain op n m imm⟩
def qDd (line op n m imm : Int) (to : Goal) : It := ⟨line, 2, 1, 2, .lead op n m imm to⟩
def qY : Int -> List It -> List Int
 | p, [] => [p]
 | p, x :: r => p :: qY (p + (x.size + (x.upTo - p.tmod x.upTo).tmod x.upTo)) r
def qP (name : List UInt8) : List (List UInt8 × Nat) -> Option Nat
 | [] => none
 | (a, k) :: r => if a = name then some k else qP name r
def qEs (u : Un) (ps : List Int) (name : List UInt8) (n : Int) : Except Int Int :=
 if name = [] then .error 8
 else match qP name u.labels with
  | none => .error 6
  | some k => .ok (ps.getD k 0 + n)
def qDS (u : Un) (ps : List Int) : Goal -> Except Int Int
 | .val name n => qEs u ps name n
 | .slot p i => .ok (ps.getD (u.firsts p + i) 0)
def qBd (shape pos to : Int) : Int × Int :=
 if shape = 8 then (to - ((pos + 4) - (pos + 4).tmod 4), 4) else (to - (pos + 4), 2)
def qEn (pos to : Int) : Bool := decide (-128 * 2 <= (qBd 4 pos to).1 /\ (qBd 4 pos to).1 <= 127 * 2)
def farU (u : Un) (ps : List Int) (pos : Int) : Gen -> Bool
 | .lead op _ _ _ to => if Isa.qK op = 4 then (match qDS u ps to with | .ok p => !(qEn pos p) | .error _ => false) else false
 | _ => false
def qAr (u : Un) (ps : List Int) : Nat -> List It -> List It × Bool
 | _, [] => ([], false)
 | k, x :: r =>
   if x.size < 6 /\ farU u ps (ps.getD k 0) x.gen = true then ({ x with size := 6 } :: (qAr u ps (k + 1) r).1, true)
   else (x :: (qAr u ps (k + 1) r).1, (qAr u ps (k + 1) r).2)
def layU : Nat -> Un -> Option (Except Int (Un × List Int))
 | 0, _ => none
 | f + 1, u =>
   let ps := qY 0 u.items
   if 8000 < ps.getLastD 0 then some (.error 4)
   else if (qAr u ps 0 u.items).2 = true then layU f { u with items := (qAr u ps 0 u.items).1 }
   else some (.ok (u, ps))
def ledU (op pos to : Int) : Except Int Int :=
 if ((qBd (Isa.qK op) pos to).1).tmod (qBd (Isa.qK op) pos to).2 ≠ 0 then .error 11
 else .ok (((qBd (Isa.qK op) pos to).1).tdiv (qBd (Isa.qK op) pos to).2)
def half (n : Int) : List UInt8 := [lowB (n / 256), lowB n]
def encU (op n m imm : Int) : Except Int (List UInt8) :=
 if Isa.qV op n m imm = 0 then .ok (half (Isa.encI op n m imm)) else .error (Isa.qV op n m imm)
def longB (op pos to : Int) : Except Int (List UInt8) :=
 match ledU 19 (pos + 2) to with
 | .error e => .error e
 | .ok d =>
   match encU (if op = 17 then 18 else 17) 0 0 1 with
   | .error e => .error e
   | .ok a =>
     match encU 19 0 0 d with
     | .error e => .error e
     | .ok b =>
       match encU 1 0 0 0 with
       | .error e => .error e
       | .ok c => .ok (a ++ (b ++ c))
def putU (size n : Int) : List UInt8 := if size = 1 then [lowB n] else if size = 2 then half n else be4 n
def qEM (u : Un) (ps : List Int) (pos size : Int) (rs : List Re) (x : It) : Except Int (List UInt8 × List Re) :=
 match x.gen with
 | .fill => .ok (List.replicate size.toNat 0, rs)
 | .num name n =>
   if name = [] then .ok (putU x.size n, rs)
   else match qEs u ps name n with
    | .ok p => .ok (List.replicate x.size.toNat 0, rs ++ [⟨pos, x.size, [], wrap32 p⟩])
    | .error _ => .ok (List.replicate x.size.toNat 0, rs ++ [⟨pos, x.size, name, n⟩])
 | .plain op n m imm => (encU op n m imm).map fun b => (b, rs)
 | .lead op n m _ to =>
   match qDS u ps to with
   | .error e => .error e
   | .ok p =>
     if size = 6 then (longB op pos p).map fun b => (b, rs)
     else match ledU op pos p with
      | .error e => .error e
      | .ok d => (encU op n m d).map fun b => (b, rs)
def qA2 (u : Un) (ps : List Int) : Nat -> List UInt8 -> List Re -> List It -> Except (Int × Int) (List UInt8 × List Re)
 | _, code, rs, [] => .ok (code, rs)
 | k, code, rs, x :: r =>
   if (ps.getD k 0).tmod x.align ≠ 0 then .error (11, x.line)
   else match qEM u ps (ps.getD k 0) (ps.getD (k + 1) 0 - ps.getD k 0) rs x with
    | .error e => .error (e, x.line)
    | .ok (b, rs') => qA2 u ps (k + 1) (code ++ b) rs' r
def qCN (u : Un) (ps : List Int) : List Sy := u.labels.map fun a => ⟨a.1, ps.getD a.2 0⟩
def unitU (f : Nat) (u : Un) : Option (Except (Int × Int) Ob) :=
 match layU f u with
 | none => none
 | some (.error e) => some (.error (e, 0))
 | some (.ok (v, ps)) =>
   match qA2 v ps 0 [] [] v.items with
   | .error e => some (.error e)
   | .ok (code, rs) => some (.ok ⟨code, qCN v ps, rs⟩)
theorem qF4 : ∀ (l : List It) (p : Int), (qY p l).length = l.length + 1
 | [], p => rfl
 | x :: r, p => by simp [qY, qF4 r]
def ledI (line op size : Int) (nm : List UInt8) : It := ⟨line, size, 1, 2, .lead op 0 0 0 (.val nm 0)⟩
end Go.Proofs.YtfmljailbebfgaaGreatDoor
