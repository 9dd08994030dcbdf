import Derived.Test.YtgjmbjahgcndnaaGreatDoorPut4
import Derived.Deep.AppendLies
import Derived.Deep.AppendSrc
import Derived.Laws.BytesArg
namespace Go.Proofs.YtgjmbjahgcndnaaGreatDoor.Isa
open Go.RowKit
end Go.Proofs.YtgjmbjahgcndnaaGreatDoor.Isa
