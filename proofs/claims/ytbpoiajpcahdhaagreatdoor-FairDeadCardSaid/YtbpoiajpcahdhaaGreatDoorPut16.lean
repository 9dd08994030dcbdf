/- What an expression is, how tokens are read as one, and what it comes to: functions of lists; no program in this text. Expressions, values and names' numbers in memory. Reading by layers: what is read of one strength out of what is read of the next stronger one; no program in this text. A place is a place, and so much more: what an expression comes to where a name is a place, and where it is a number. No program in this text. -/
import Derived.Test.YtbpoiajpcahdhaaGreatDoorXBase
namespace Go.Proofs.YtbpoiajpcahdhaaGreatDoor.Xp
open Go.RowKit

inductive Ex where
  | mk (kind n : Int) (name : List UInt8) (kids : List Ex)



end Go.Proofs.YtbpoiajpcahdhaaGreatDoor.Xp

namespace Go.Proofs.YtbpoiajpcahdhaaGreatDoor.Xp
open Go.RowKit

/-- The slice reads as those expressions, all in blocks of which p holds. -/
inductive KR (w : World) (p : Nat → Prop) : Value → List Ex → Prop where
  | mk (ad : Option Addr) (cap : Nat) (ks : List Ex) (vi : Nat → Value) (hm : ks.length ≤ 2513169434843)
      (hc : 0 < ks.length → ∃ b o, ad = some ⟨b, o, none⟩ ∧ p b ∧ b < w.heap.size ∧ ∀ i (h : i < ks.length),
        w.cell? ⟨b, o + i * 4, none⟩ = some (.int .i64 ks[i].kind) ∧ w.cell? ⟨b, o + i * 4 + 1, none⟩ = some (.int .i64 ks[i].n) ∧ w.cell? ⟨b, o + i * 4 + 2, none⟩ = some (.string ⟨ks[i].name.toArray⟩) ∧ w.cell? ⟨b, o + i * 4 + 3, none⟩ = some (vi i))
      (hk : ∀ i (h : i < ks.length), KR w p (vi i) ks[i].kids) : KR w p (.slice ad ks.length cap) ks

end Go.Proofs.YtbpoiajpcahdhaaGreatDoor.Xp

namespace Go.Proofs.YtbpoiajpcahdhaaGreatDoor.Xp
open Go.RowKit

end Go.Proofs.YtbpoiajpcahdhaaGreatDoor.Xp

namespace Go.Proofs.YtbpoiajpcahdhaaGreatDoor.Xp
open Go.RowKit


end Go.Proofs.YtbpoiajpcahdhaaGreatDoor.Xp
