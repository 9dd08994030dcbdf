/- expr's Part: one token added. expr's Part: a number, or a name, added. -/
import Derived.Test.YtbpoiajpcahdhaaGreatDoorUaP
import Derived.Test.YtbpoiajpcahdhaaGreatDoorPut26
import Derived.Handy
namespace Go.Proofs.YtbpoiajpcahdhaaGreatDoor
open Go.RowKit

/-- What a box that was made just ahead of a call holds behind it. -/
theorem box_keep {w w1 : World} {cs : Array Value} {t : TypeId} (hb : Below (w.alloc (.cells cs t)).heap.size (w.alloc (.cells cs t)) w1) :
    Below w.heap.size w w1 ∧ w.heap.size < w1.heap.size ∧ w1.heap[w.heap.size]? = some (.cells cs t (0, 0)) := by
  refine ⟨Below.trans (oalloc w _) (hb.mono (by simp)), Nat.lt_of_lt_of_le (by simp) hb.size, ?_⟩
  rw [hb.block _ (by simp)]
  exact new_at _ _ rfl

theorem KL.below {w w' : World} (h : Xp.KLaid w) (hb : Below w.heap.size w w') : Xp.KLaid w' := h.below hb h.sz
end Go.Proofs.YtbpoiajpcahdhaaGreatDoor

namespace Go.Proofs.YtbpoiajpcahdhaaGreatDoor
open Go.RowKit

end Go.Proofs.YtbpoiajpcahdhaaGreatDoor
