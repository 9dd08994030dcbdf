import Derived.Test.YtfmljailbebfgaaGreatDoorPut18
namespace Go.Proofs.YtfmljailbebfgaaGreatDoor.Si
open Go.RowKit Isa
end Go.Proofs.YtfmljailbebfgaaGreatDoor.Si
