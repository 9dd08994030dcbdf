import Derived.Test.YtgjmbjahgcndnaaGreatDoorPut41
namespace Go.Proofs.YtgjmbjahgcndnaaGreatDoor
open Go.RowKit
def IOk (labs : List (List UInt8 × Nat)) (i : It) : Prop :=
 qJp i /\ (1 <= i.align /\ i.align <= 16) /\ i.upTo = 1 /\
 match i.gen with
 | .fill => False
 | .num nm add => (i.size = 1 \/ i.size = 2 \/ i.size = 4) /\ nm.length <= maxLen /\ -100000000000 <= add /\ add <= 100000000000
 | .plain _ _ _ _ => True
 | .lead op _ _ _ q => (i.size = 2 \/ i.size = 6) /\ (op = 17 \/ op = 18) /\ ∃ nm add k, q = .val nm add /\ nm ≠ [] /\ nm.length <= maxLen /\ -100000000000 <= add /\ add <= 100000000000 /\ qAX nm labs = some k
structure Fin (labs : List (List UInt8 × Nat)) (its : List It) (ob : Ob) : Prop where
 hx : ∀ i, i ∈ its -> IOk labs i
 pos : 0 < its.length
 n : its.length <= 3000
 lbk : ∀ nm k, qAX nm labs = some k -> k <= its.length
 lbs : ∀ j (h : j < labs.length), qAX labs[j].1 labs = some labs[j].2 /\ labs[j].1.length <= maxLen
 ll : labs.length <= 100000
 un : unitU 2 ⟨labs, its, fun _ => 0⟩ = some (.ok ob)
 cl : ob.code.length <= 100000 /\ ob.rels.length <= 100000
end Go.Proofs.YtgjmbjahgcndnaaGreatDoor
namespace Go.Proofs.YtgjmbjahgcndnaaGreatDoor
open Go.RowKit Go.Maps Go.MapKept
structure Lk where
 lab : Option (List UInt8)
 ins : Ins
def Lk.toks (k : Lk) : List Tk := match k.lab with
 | none => k.ins.toks
 | some nm => wd nm :: sg 58 :: k.ins.toks
def Lk.labs (k : Lk) (c : Nat) : List (List UInt8 × Nat) := match k.lab with
 | none => []
 | some nm => [(nm, c)]
def Lk.Ok (k : Lk) : Prop := k.ins.Ok /\ ∀ nm, k.lab = some nm -> nm.length <= maxLen /\ regU 1 nm < 0 /\ Xp.qL nm = true
section
variable (w W : World) (gu mb gp mi : Nat) (v : Value) (ln : Int) (labs : List (List UInt8 × Nat)) (its : List It)
end
def itsG (l : List (Int × Lk)) : List It := l.map fun a => a.2.ins.it a.1
def qAv : Nat -> List (Int × Lk) -> List (List UInt8 × Nat)
 | _, [] => []
 | c, a :: r => a.2.labs c ++ qAv (c + 1) r
theorem qEf (a : Int × Lk) : ∀ (l : List (Int × Lk)) (c : Nat), qAv c (l ++ [a]) = qAv c l ++ a.2.labs (c + l.length)
 | [], c => by simp [qAv]
 | b :: l, c => by
   rw [List.cons_append, qAv, qEf a l, qAv, List.append_assoc, List.length_cons]
   rw [show c + 1 + l.length = c + (l.length + 1) by omega]
theorem qFZ : ∀ (l : List (Int × Lk)) (c : Nat), (qAv c l).length <= l.length
 | [], c => by simp [qAv]
 | a :: l, c => by
   have := qFZ l (c + 1)
   have h1 : (a.2.labs c).length <= 1 := by unfold Lk.labs; split <;> simp
   rw [qAv, List.length_append, List.length_cons]
   omega
end Go.Proofs.YtgjmbjahgcndnaaGreatDoor
namespace Go.Proofs.YtgjmbjahgcndnaaGreatDoor
open Go.RowKit
theorem half_len (n : Int) : (half n).length = 2 := rfl
def qEv : List UInt8 := [97, 103, 97, 105, 110]
def qCj : List UInt8 := [109, 111, 118, 32, 35, 48, 44, 114, 48]
def qBj : List Sc.Tok := [⟨1, 0, [109, 111, 118]⟩, ⟨3, 0, [35]⟩, ⟨2, 0, []⟩, ⟨3, 0, [44]⟩, ⟨1, 0, [114, 48]⟩]
def tr1L : List UInt8 := [116, 114, 97, 112, 97, 32, 35, 49]
def tr1T : List Sc.Tok := [⟨1, 0, [116, 114, 97, 112, 97]⟩, ⟨3, 0, [35]⟩, ⟨2, 1, []⟩]
def tr0L : List UInt8 := [116, 114, 97, 112, 97, 32, 35, 48]
def tr0T : List Sc.Tok := [⟨1, 0, [116, 114, 97, 112, 97]⟩, ⟨3, 0, [35]⟩, ⟨2, 0, []⟩]
theorem qLb : OkL qCj qBj := ⟨by kernel_rfl, by kernel_rfl, by simp [qBj], by decide, by decide⟩
theorem qHt : OkL tr1L tr1T := ⟨by kernel_rfl, by kernel_rfl, by simp [tr1T], by decide, by decide⟩
theorem qIH : OkL tr0L tr0T := ⟨by kernel_rfl, by kernel_rfl, by simp [tr0T], by decide, by decide⟩
theorem ph_of (s : List UInt8) (r : List Sc.Tok) (hs : ∀ q, q ∈ heads -> (s == q) = false) : qZ (qA0 ((⟨1, 0, s⟩ :: r : List Sc.Tok).map tkOf)) := plain_of (s := s) rfl hs
def iMov (n : Int) (r : List UInt8) : Ins := ⟨[109, 111, 118], [.num n, .reg r], 3⟩
def iAdd (n : Int) (r : List UInt8) : Ins := ⟨[97, 100, 100], [.num n, .reg r], 4⟩
def iNop : Ins := ⟨[110, 111, 112], [], 1⟩
def iDt (r : List UInt8) : Ins := ⟨[100, 116], [.reg r], 16⟩
def iBf (nm : List UInt8) : Ins := ⟨[98, 102], [.name nm], 18⟩
def iTr (n : Int) : Ins := ⟨[116, 114, 97, 112, 97], [.num n], 27⟩
def r0' : List UInt8 := [114, 48]
def r1' : List UInt8 := [114, 49]
def ksL (t b : Nat) : List (Int × Lk) := [(1, ⟨none, iMov 0 r0'⟩), (2, ⟨none, iMov t r1'⟩), (3, ⟨some qEv, iAdd 1 r0'⟩)] ++ (List.replicate b (5, ⟨none, iNop⟩) ++ [(7, ⟨none, iDt r1'⟩), (8, ⟨none, iBf qEv⟩), (9, ⟨none, iTr 1⟩), (10, ⟨none, iTr 0⟩)])
theorem qKg (l : List (List UInt8 × List Sc.Tok)) (h : ∀ a, a ∈ l -> OkL a.1 a.2) (hl : (l.flatMap fun a => a.1 ++ [10]).length <= 1200) : Sc.qAJ (l.flatMap fun a => a.1 ++ [10]) = .ok (qA5 1 (l.map (·.2))) := by
 unfold Sc.qAJ
 rw [if_neg (by omega), qFI l h]
 exact qFB l 1 h
end Go.Proofs.YtgjmbjahgcndnaaGreatDoor
