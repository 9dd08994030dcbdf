/- What an object is, what is wrong with it, its bytes, and the object of bytes: functions of lists; no program in this text. -/
import Derived.RowKit
namespace Go.Proofs.YtagkmgdjkailkaaGreatDoor
open Go.RowKit

structure Sy where
  name : List UInt8
  pos : Int

structure Re where
  pos : Int
  size : Int
  name : List UInt8
  add : Int

structure Ob where
  code : List UInt8
  syms : List Sy
  rels : List Re

/-- What is wrong with a sym, behind others; nm: what a name is. -/
def symErr (nm : List UInt8 → Bool) (len : Nat) (before : List Sy) (s : Sy) : Int :=
  if nm s.name = false then 7
  else if before.any (fun t => decide (t.name = s.name)) = true then 7
  else if s.pos < 0 ∨ (len : Int) < s.pos then 3
  else 0

def symsErr (nm : List UInt8 → Bool) (len : Nat) : List Sy → List Sy → Int
  | _, [] => 0
  | before, s :: r => if symErr nm len before s = 0 then symsErr nm len (before ++ [s]) r else symErr nm len before s

/-- What is wrong with a reloc that may begin at last. -/
def relErr (nm : List UInt8 → Bool) (len : Nat) (last : Int) (r : Re) : Int :=
  if r.size ≠ 2 ∧ r.size ≠ 4 then 1
  else if r.pos < last ∨ 8000 < r.pos ∨ (len : Int) < r.pos + r.size then 3
  else if r.pos % r.size ≠ 0 then 11
  else if r.name ≠ [] ∧ nm r.name = false then 7
  else if r.add ≠ wrap32 r.add then 3
  else 0

def relsErr (nm : List UInt8 → Bool) (len : Nat) : Int → List Re → Int
  | _, [] => 0
  | last, r :: l => if relErr nm len last r = 0 then relsErr nm len (r.pos + r.size) l else relErr nm len last r

def wrongO (nm : List UInt8 → Bool) (o : Ob) : Int :=
  if 8000 < o.code.length ∨ 255 < o.syms.length ∨ 16000 < o.rels.length then 4
  else if symsErr nm o.code.length [] o.syms = 0 then relsErr nm o.code.length 0 o.rels
  else symsErr nm o.code.length [] o.syms

/-- A number's lowest byte, and its lowest four, the uppermost one first. -/
def lowB (n : Int) : UInt8 := UInt8.ofNat (n % 256).toNat
def be4 (n : Int) : List UInt8 := [lowB (n / 16777216), lowB (n / 65536), lowB (n / 256), lowB n]

def symB (s : Sy) : List UInt8 := lowB s.name.length :: (s.name ++ be4 s.pos)
def relB (r : Re) : List UInt8 := be4 r.pos ++ (lowB r.size :: lowB r.name.length :: (r.name ++ be4 r.add))
def bytesO (o : Ob) : List UInt8 :=
  [79, 66, 74] ++ (be4 o.code.length ++ (o.code ++ (be4 o.syms.length ++ (o.syms.flatMap symB ++ (be4 o.rels.length ++ o.rels.flatMap relB)))))

def beNum (l : List UInt8) : Nat := l.foldl (fun n c => n * 256 + c.toNat) 0
def rdN (k : Nat) (l : List UInt8) : Option (Nat × List UInt8) := if k ≤ l.length then some (beNum (l.take k), l.drop k) else none
def rdT (n : Nat) (l : List UInt8) : Option (List UInt8 × List UInt8) := if n ≤ l.length then some (l.take n, l.drop n) else none

def rdSym (l : List UInt8) : Option (Sy × List UInt8) :=
  (rdN 1 l).bind fun a => (rdT a.1 a.2).bind fun b => (rdN 4 b.2).bind fun c => some (⟨b.1, c.1⟩, c.2)
def rdRel (l : List UInt8) : Option (Re × List UInt8) :=
  (rdN 4 l).bind fun a => (rdN 1 a.2).bind fun b => (rdN 1 b.2).bind fun c => (rdT c.1 c.2).bind fun d => (rdN 4 d.2).bind fun e => some (⟨a.1, b.1, d.1, wrap32 e.1⟩, e.2)
def rdMany {α : Type} (f : List UInt8 → Option (α × List UInt8)) : Nat → List UInt8 → Option (List α × List UInt8)
  | 0, l => some ([], l)
  | n + 1, l => (f l).bind fun a => (rdMany f n a.2).bind fun b => some (a.1 :: b.1, b.2)

def readO (l : List UInt8) : Option Ob :=
  (rdT 3 l).bind fun m => if m.1 = [79, 66, 74] then
    (rdN 4 m.2).bind fun a => (rdT a.1 a.2).bind fun c => (rdN 4 c.2).bind fun d => (rdMany rdSym d.1 d.2).bind fun s => (rdN 4 s.2).bind fun e => (rdMany rdRel e.1 e.2).bind fun r =>
      if r.2 = [] then some ⟨c.1, s.1, r.1⟩ else none
  else none
def parseO (nm : List UInt8 → Bool) (l : List UInt8) : Except Int Ob :=
  match readO l with
  | none => .error 2
  | some o => if wrongO nm o = 0 then .ok o else .error (wrongO nm o)

/-! There, and back. -/

theorem lowB_nat (n : Int) : ((lowB n).toNat : Int) = n % 256 := by
  have h0 : 0 ≤ n % 256 := Int.emod_nonneg _ (by decide)
  have h1 : n % 256 < 256 := Int.emod_lt_of_pos _ (by decide)
  unfold lowB
  rw [UInt8.toNat_ofNat']
  omega
end Go.Proofs.YtagkmgdjkailkaaGreatDoor
