/- The card of 'FairDead', under the seat's own name. -/
import Derived.Test.YtbpoiajpcahdhaaGreatDoorPut52
namespace Go.Proofs.YtbpoiajpcahdhaaGreatDoor
theorem dead_card : Rows.FairDeadCardSaid := Wi.dead_card
#print axioms dead_card
end Go.Proofs.YtbpoiajpcahdhaaGreatDoor
