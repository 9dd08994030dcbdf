import Derived.Test.YtfmljailbebfgaaGreatDoorPut45
namespace Go.Proofs.YtfmljailbebfgaaGreatDoor
open Go.RowKit
section
variable {w W : World} {gu gp mb n : Nat} {nv pp rv : Value} {ln : Int} {labs : List (List UInt8 × Nat)} {its : List It}
end
section
variable {w : World} {gu mb : Nat} {nv pp pv rv : Value} {ln : Int} {labs : List (List UInt8 × Nat)} {its : List It}
end
end Go.Proofs.YtfmljailbebfgaaGreatDoor
namespace Go.Proofs.YtfmljailbebfgaaGreatDoor
open Go.RowKit Go.Maps Go.MapKept
theorem qHj.al {w W : World} {gu mb gp mi : Nat} (h : qHj w W gu mb gp mi) : AlR w W gu mb gp mi 0 [] [] false :=
 ⟨h.bx, ⟨_, h.ur, World.ownsRow_nil _ _ _ _⟩, lbr_nil h.mp, by simp only [Bool.false_eq_true, if_false]; exact ⟨h.po, h.mq⟩⟩
end Go.Proofs.YtfmljailbebfgaaGreatDoor
