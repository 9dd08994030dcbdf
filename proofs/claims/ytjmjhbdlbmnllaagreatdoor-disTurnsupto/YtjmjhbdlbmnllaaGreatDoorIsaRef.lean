/- The document's table: what plref1.Rows makes, and what a look-up in it tells. -/
import Derived.Test.YtjmjhbdlbmnllaaGreatDoorPut3
import Derived.MapFrom
import Derived.Carry
import Derived.OwnWalk
namespace Go.Proofs.YtjmjhbdlbmnllaaGreatDoor.Isa
open Go.RowKit Go.MapKept

end Go.Proofs.YtjmjhbdlbmnllaaGreatDoor.Isa
