import Derived.Test.YtgjmbjahgcndnaaGreatDoorPut40
namespace Go.Proofs.YtgjmbjahgcndnaaGreatDoor
open Go.RowKit
section
variable {w W : World} {gu gp mb n : Nat} {nv pp rv : Value} {ln : Int} {labs : List (List UInt8 × Nat)} {its : List It}
end
section
variable {w : World} {gu mb : Nat} {nv pp pv rv : Value} {ln : Int} {labs : List (List UInt8 × Nat)} {its : List It}
end
end Go.Proofs.YtgjmbjahgcndnaaGreatDoor
namespace Go.Proofs.YtgjmbjahgcndnaaGreatDoor
open Go.RowKit Go.Maps Go.MapKept
theorem qLy.al {w W : World} {gu mb gp mi : Nat} (h : qLy w W gu mb gp mi) : AlR w W gu mb gp mi 0 [] [] false :=
 ⟨h.bx, ⟨_, h.ur, World.ownsRow_nil _ _ _ _⟩, lbr_nil h.mp, by simp only [Bool.false_eq_true, if_false]; exact ⟨h.po, h.mq⟩⟩
end Go.Proofs.YtgjmbjahgcndnaaGreatDoor
namespace Go.Proofs.YtgjmbjahgcndnaaGreatDoor
open Go.RowKit
theorem plain_of {ts : List Sc.Tok} {s : List UInt8} (h : qA0 (ts.map tkOf) = ⟨s.toArray⟩) (hs : ∀ q, q ∈ heads -> (s == q) = false) : qZ (qA0 (ts.map tkOf)) := by
 intro q hq
 rw [h, ByteArray.toList_eq]
 simpa using hs q hq
section
variable (w W : World) (gu mb gp mi : Nat) (v : Value)
end
end Go.Proofs.YtgjmbjahgcndnaaGreatDoor
