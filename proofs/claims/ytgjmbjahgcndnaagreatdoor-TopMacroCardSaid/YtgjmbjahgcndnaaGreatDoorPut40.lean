/- asm: the unit of a source some of whose lines are blocks of .rept, whatever its lines make. asm: whether a branch must be long. asm: branches made long that must be. asm: lengthen of any items. asm: the bytes of a branch that leads far. asm: places laid, where branches may have to be long. asm: lay, where a branch may have to be long: one round, or two. asm: all written, where branches may be long. asm: the unit of the three lines built. -/
import Derived.Test.YtgjmbjahgcndnaaGreatDoorPut39
import Derived.Test.YtgjmbjahgcndnaaGreatDoorPut34
import Derived.Test.YtgjmbjahgcndnaaGreatDoorPut37
import Derived.Test.YtgjmbjahgcndnaaGreatDoorPut32
namespace Go.Proofs.YtgjmbjahgcndnaaGreatDoor
open Go.RowKit

end Go.Proofs.YtgjmbjahgcndnaaGreatDoor

namespace Go.Proofs.YtgjmbjahgcndnaaGreatDoor
open Go.RowKit

end Go.Proofs.YtgjmbjahgcndnaaGreatDoor

namespace Go.Proofs.YtgjmbjahgcndnaaGreatDoor
open Go.RowKit

end Go.Proofs.YtgjmbjahgcndnaaGreatDoor

namespace Go.Proofs.YtgjmbjahgcndnaaGreatDoor
open Go.RowKit

end Go.Proofs.YtgjmbjahgcndnaaGreatDoor

namespace Go.Proofs.YtgjmbjahgcndnaaGreatDoor
open Go.RowKit

end Go.Proofs.YtgjmbjahgcndnaaGreatDoor

namespace Go.Proofs.YtgjmbjahgcndnaaGreatDoor
open Go.RowKit

section
variable {w W : World} {gu gp mb n : Nat} {nv pp rv : Value} {ln : Int} {labs : List (List UInt8 × Nat)} {its : List It}

end

end Go.Proofs.YtgjmbjahgcndnaaGreatDoor

namespace Go.Proofs.YtgjmbjahgcndnaaGreatDoor
open Go.RowKit

section
variable {w : World} {gu mb : Nat} {nv pp pv rv : Value} {ln : Int} {labs : List (List UInt8 × Nat)} {its : List It}

end

end Go.Proofs.YtgjmbjahgcndnaaGreatDoor

namespace Go.Proofs.YtgjmbjahgcndnaaGreatDoor
open Go.RowKit

end Go.Proofs.YtgjmbjahgcndnaaGreatDoor

namespace Go.Proofs.YtgjmbjahgcndnaaGreatDoor
open Go.RowKit Go.Maps Go.MapKept

theorem Begun.al {w W : World} {gu mb gp mi : Nat} (h : Begun w W gu mb gp mi) : AlR w W gu mb gp mi 0 [] [] false :=
  ⟨h.bx, ⟨_, h.ur, World.ownsRow_nil _ _ _ _⟩, lbr_nil h.mp, by simp only [Bool.false_eq_true, if_false]; exact ⟨h.po, h.mq⟩⟩

end Go.Proofs.YtgjmbjahgcndnaaGreatDoor
