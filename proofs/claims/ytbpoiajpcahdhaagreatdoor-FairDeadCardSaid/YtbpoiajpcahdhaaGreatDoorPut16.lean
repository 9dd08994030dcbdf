/- What an expression is, how tokens are read as one, and what it comes to: functions of lists; no program in this text. Expressions, values and names' numbers in memory. Reading by layers: what is read of one strength out of what is read of the next stronger one; no program in this text. A place is a place, and so much more: what an expression comes to where a name is a place, and where it is a number. No program in this text. -/
import Derived.Test.YtbpoiajpcahdhaaGreatDoorXBase
namespace Go.Proofs.YtbpoiajpcahdhaaGreatDoor.Xp
open Go.RowKit




end Go.Proofs.YtbpoiajpcahdhaaGreatDoor.Xp

namespace Go.Proofs.YtbpoiajpcahdhaaGreatDoor.Xp
open Go.RowKit

end Go.Proofs.YtbpoiajpcahdhaaGreatDoor.Xp

namespace Go.Proofs.YtbpoiajpcahdhaaGreatDoor.Xp
open Go.RowKit

end Go.Proofs.YtbpoiajpcahdhaaGreatDoor.Xp

namespace Go.Proofs.YtbpoiajpcahdhaaGreatDoor.Xp
open Go.RowKit


end Go.Proofs.YtbpoiajpcahdhaaGreatDoor.Xp
