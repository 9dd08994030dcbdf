/- The document's own To. -/
import Derived.Test.YtjmjhbdlbmnllaaGreatDoorIsaRef
import Derived.Test.YtjmjhbdlbmnllaaGreatDoorPut10
namespace Go.Proofs.YtjmjhbdlbmnllaaGreatDoor.Di
open Go.RowKit Isa

/-- Where an instruction leads. -/
def toI (op imm at' : Int) : Int :=
  if infoShape op = 4 ∨ infoShape op = 5 ∨ infoShape op = 7 then at' + 2 * imm + 4
  else if infoShape op = 8 then at' - at' % 4 + 4 + 4 * imm else 0
def toB (op : Int) : Bool := decide (infoShape op = 4 ∨ infoShape op = 5 ∨ infoShape op = 7 ∨ infoShape op = 8)

end Go.Proofs.YtjmjhbdlbmnllaaGreatDoor.Di
