import Derived.Test.YtfmljailbebfgaaGreatDoorPut5
import Derived.Deep.AppendLies
import Derived.Deep.AppendSrc
import Derived.Laws.BytesArg
namespace Go.Proofs.YtfmljailbebfgaaGreatDoor.Isa
open Go.RowKit
end Go.Proofs.YtfmljailbebfgaaGreatDoor.Isa
