/- asm: the lines that come of AsmFar's source, and what they make. asm: lines of a branch and what it leads over: what they make. asm: lines of instructions, with labels or without: what they make. What comes of AsmFar's lines: functions of lists; no program in this text. -/
import Derived.Test.YtjmjhbdlbmnllaaGreatDoorPut46
import Derived.Test.YtjmjhbdlbmnllaaGreatDoorPut47
import Derived.Test.YtjmjhbdlbmnllaaGreatDoorPut48
import Derived.Test.YtjmjhbdlbmnllaaGreatDoorPut2
namespace Go.Proofs.YtjmjhbdlbmnllaaGreatDoor
open Go.RowKit

theorem plain_of {ts : List Sc.Tok} {s : List UInt8} (h : headS (ts.map tkOf) = ⟨s.toArray⟩) (hs : ∀ q, q ∈ heads → (s == q) = false) : PlainHead (headS (ts.map tkOf)) := by
  intro q hq
  rw [h, ByteArray.toList_eq]
  simpa using hs q hq
/-! What lines make. -/
section
variable (w W : World) (gu mb gp mi : Nat) (v : Value)

end

end Go.Proofs.YtjmjhbdlbmnllaaGreatDoor

namespace Go.Proofs.YtjmjhbdlbmnllaaGreatDoor
open Go.RowKit

/-- An item of such lines. -/
def IOk (labs : List (List UInt8 × Nat)) (i : It) : Prop :=
  Laid1 i ∧ (1 ≤ i.align ∧ i.align ≤ 16) ∧ i.upTo = 1 ∧
  match i.gen with
  | .fill => False
  | .num nm add => (i.size = 1 ∨ i.size = 2 ∨ i.size = 4) ∧ nm.length ≤ maxLen ∧ -100000000000 ≤ add ∧ add ≤ 100000000000
  | .plain _ _ _ _ => True
  | .lead op _ _ _ q => (i.size = 2 ∨ i.size = 6) ∧ (op = 17 ∨ op = 18) ∧ ∃ nm add k, q = .val nm add ∧ nm ≠ [] ∧ nm.length ≤ maxLen ∧ -100000000000 ≤ add ∧ add ≤ 100000000000 ∧ labelAt nm labs = some k
/-- All that is asked of items and labels at the end. -/
structure Fin (labs : List (List UInt8 × Nat)) (its : List It) (ob : Ob) : Prop where
  hx : ∀ i, i ∈ its → IOk labs i
  pos : 0 < its.length
  n : its.length ≤ 3000
  lbk : ∀ nm k, labelAt nm labs = some k → k ≤ its.length
  lbs : ∀ j (h : j < labs.length), labelAt labs[j].1 labs = some labs[j].2 ∧ labs[j].1.length ≤ maxLen
  ll : labs.length ≤ 100000
  un : unitU 2 ⟨labs, its, fun _ => 0⟩ = some (.ok ob)
  cl : ob.code.length ≤ 100000 ∧ ob.rels.length ≤ 100000

end Go.Proofs.YtjmjhbdlbmnllaaGreatDoor

namespace Go.Proofs.YtjmjhbdlbmnllaaGreatDoor
open Go.RowKit Go.Maps Go.MapKept

/-- A line: a label, if there is one, and an instruction. -/
structure Lk where
  lab : Option (List UInt8)
  ins : Ins
def Lk.toks (k : Lk) : List Tk := match k.lab with
  | none => k.ins.toks
  | some nm => wd nm :: sg 58 :: k.ins.toks
def Lk.labs (k : Lk) (c : Nat) : List (List UInt8 × Nat) := match k.lab with
  | none => []
  | some nm => [(nm, c)]
def Lk.Ok (k : Lk) : Prop := k.ins.Ok ∧ ∀ nm, k.lab = some nm → nm.length ≤ maxLen ∧ regU 1 nm < 0 ∧ Xp.nameR nm = true

section
variable (w W : World) (gu mb gp mi : Nat) (v : Value) (ln : Int) (labs : List (List UInt8 × Nat)) (its : List It)

end

def itsG (l : List (Int × Lk)) : List It := l.map fun a => a.2.ins.it a.1
def labsG : Nat → List (Int × Lk) → List (List UInt8 × Nat)
  | _, [] => []
  | c, a :: r => a.2.labs c ++ labsG (c + 1) r
theorem labsG_snoc (a : Int × Lk) : ∀ (l : List (Int × Lk)) (c : Nat), labsG c (l ++ [a]) = labsG c l ++ a.2.labs (c + l.length)
  | [], c => by simp [labsG]
  | b :: l, c => by
    rw [List.cons_append, labsG, labsG_snoc a l, labsG, List.append_assoc, List.length_cons]
    rw [show c + 1 + l.length = c + (l.length + 1) by omega]
theorem labsG_len : ∀ (l : List (Int × Lk)) (c : Nat), (labsG c l).length ≤ l.length
  | [], c => by simp [labsG]
  | a :: l, c => by
    have := labsG_len l (c + 1)
    have h1 : (a.2.labs c).length ≤ 1 := by unfold Lk.labs; split <;> simp
    rw [labsG, List.length_append, List.length_cons]
    omega

end Go.Proofs.YtjmjhbdlbmnllaaGreatDoor

namespace Go.Proofs.YtjmjhbdlbmnllaaGreatDoor
open Go.RowKit

end Go.Proofs.YtjmjhbdlbmnllaaGreatDoor
