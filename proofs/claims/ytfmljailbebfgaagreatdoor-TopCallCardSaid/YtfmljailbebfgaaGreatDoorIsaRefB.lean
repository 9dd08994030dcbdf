import Derived.Test.YtfmljailbebfgaaGreatDoorPut4
import Derived.Deep.AppendLies
import Derived.Deep.AppendSrc
import Derived.Laws.BytesArg
namespace Go.Proofs.YtfmljailbebfgaaGreatDoor.Isa
open Go.RowKit
end Go.Proofs.YtfmljailbebfgaaGreatDoor.Isa
