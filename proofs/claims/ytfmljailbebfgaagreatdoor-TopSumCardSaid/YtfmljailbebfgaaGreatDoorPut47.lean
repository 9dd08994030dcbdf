import Derived.Test.YtfmljailbebfgaaGreatDoorPut46
namespace Go.Proofs.YtfmljailbebfgaaGreatDoor
open Go.RowKit
theorem plain_of {ts : List Sc.Tok} {s : List UInt8} (h : qDq (ts.map tkOf) = ⟨s.toArray⟩) (hs : ∀ q, q ∈ heads -> (s == q) = false) : qA7 (qDq (ts.map tkOf)) := by
 intro q hq
 rw [h, ByteArray.toList_eq]
 simpa using hs q hq
section
variable (w W : World) (gu mb gp mi : Nat) (v : Value)
end
def IOk (labs : List (List UInt8 × Nat)) (i : It) : Prop :=
 qHu i /\ (1 <= i.align /\ i.align <= 16) /\ i.upTo = 1 /\
 match i.gen with
 | .fill => False
 | .num nm add => (i.size = 1 \/ i.size = 2 \/ i.size = 4) /\ nm.length <= maxLen /\ -100000000000 <= add /\ add <= 100000000000
 | .plain _ _ _ _ => True
 | .lead op _ _ _ q => (i.size = 2 \/ i.size = 6) /\ (op = 17 \/ op = 18) /\ ∃ nm add k, q = .val nm add /\ nm ≠ [] /\ nm.length <= maxLen /\ -100000000000 <= add /\ add <= 100000000000 /\ qP nm labs = some k
structure Fin (labs : List (List UInt8 × Nat)) (its : List It) (ob : Ob) : Prop where
 hx : ∀ i, i ∈ its -> IOk labs i
 pos : 0 < its.length
 n : its.length <= 3000
 lbk : ∀ nm k, qP nm labs = some k -> k <= its.length
 lbs : ∀ j (h : j < labs.length), qP labs[j].1 labs = some labs[j].2 /\ labs[j].1.length <= maxLen
 ll : labs.length <= 100000
 un : unitU 2 ⟨labs, its, fun _ => 0⟩ = some (.ok ob)
 cl : ob.code.length <= 100000 /\ ob.rels.length <= 100000
end Go.Proofs.YtfmljailbebfgaaGreatDoor
namespace Go.Proofs.YtfmljailbebfgaaGreatDoor
open Go.RowKit Go.Maps Go.MapKept
structure Lk where
 lab : Option (List UInt8)
 ins : Ins
def Lk.toks (k : Lk) : List Tk := match k.lab with
 | none => k.ins.toks
 | some nm => wd nm :: sg 58 :: k.ins.toks
def Lk.labs (k : Lk) (c : Nat) : List (List UInt8 × Nat) := match k.lab with
 | none => []
 | some nm => [(nm, c)]
def Lk.Ok (k : Lk) : Prop := k.ins.Ok /\ ∀ nm, k.lab = some nm -> nm.length <= maxLen /\ regU 1 nm < 0 /\ Xp.qO nm = true
section
variable (w W : World) (gu mb gp mi : Nat) (v : Value) (ln : Int) (labs : List (List UInt8 × Nat)) (its : List It)
end
def itsG (l : List (Int × Lk)) : List It := l.map fun a => a.2.ins.it a.1
def qBO : Nat -> List (Int × Lk) -> List (List UInt8 × Nat)
 | _, [] => []
 | c, a :: r => a.2.labs c ++ qBO (c + 1) r
theorem qDN (a : Int × Lk) : ∀ (l : List (Int × Lk)) (c : Nat), qBO c (l ++ [a]) = qBO c l ++ a.2.labs (c + l.length)
 | [], c => by simp [qBO]
 | b :: l, c => by
   rw [List.cons_append, qBO, qDN a l, qBO, List.append_assoc, List.length_cons]
   rw [show c + 1 + l.length = c + (l.length + 1) by omega]
theorem qD9 : ∀ (l : List (Int × Lk)) (c : Nat), (qBO c l).length <= l.length
 | [], c => by simp [qBO]
 | a :: l, c => by
   have := qD9 l (c + 1)
   have h1 : (a.2.labs c).length <= 1 := by unfold Lk.labs; split <;> simp
   rw [qBO, List.length_append, List.length_cons]
   omega
end Go.Proofs.YtfmljailbebfgaaGreatDoor
namespace Go.Proofs.YtfmljailbebfgaaGreatDoor
open Go.RowKit
end Go.Proofs.YtfmljailbebfgaaGreatDoor
