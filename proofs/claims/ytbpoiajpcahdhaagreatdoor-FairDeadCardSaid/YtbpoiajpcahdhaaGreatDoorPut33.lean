/- The contract of scan's Print. Written, and read again: the tokens of a printed line. -/
import Derived.Test.YtbpoiajpcahdhaaGreatDoorPut32
import Derived.Laws.CopyOwn
import Derived.Deep.OwnRows
import Derived.Lib.ItoaMem
import Derived.Lib.AppendIntMem
import Derived.Lib.ItoaLen
import Derived.Lib.Join
namespace Go.Proofs.YtbpoiajpcahdhaaGreatDoor.Sc
open Go.RowKit

end Go.Proofs.YtbpoiajpcahdhaaGreatDoor.Sc

namespace Go.Proofs.YtbpoiajpcahdhaaGreatDoor.Sc
open Go.RowKit

end Go.Proofs.YtbpoiajpcahdhaaGreatDoor.Sc
