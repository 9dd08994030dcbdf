/- The table of package expr, its reader in memory, and the contracts of takeSign and takeKind. The contracts of isSign and of the reader's takeSign. The contract of the reader's takeKind. The contracts of isa's Signed and of package expr's leaf. -/
import Derived.Test.YtbpoiajpcahdhaaGreatDoorPut16
import Derived.Laws.Rows
namespace Go.Proofs.YtbpoiajpcahdhaaGreatDoor.Xp
open Go.RowKit

/-- The columns of the table 'kinds'. -/
def kKids (k : Int) : Int := [0, 0, 0, 1, 1, 2, 2, 2, 2, 2, 2, 2].getD k.toNat 0
def kSign (k : Int) : List UInt8 := [[], [], [], [45], [126], [42], [43], [45], [60, 60], [62, 62], [38], [124]].getD k.toNat []
def kStr (k : Int) : Int := [0, 0, 0, 0, 0, 5, 4, 4, 3, 3, 2, 1].getD k.toNat 0
def kCells : Array Value := ((List.range 12).flatMap fun k => [.int .i64 (kKids k), .string ⟨(kSign k).toArray⟩, .int .i64 (kStr k)]).toArray

/-- The table lies in memory as the text lays it. -/
structure KLaid (w : World) : Prop where
  sz : 9 < w.heap.size
  blk : ∃ t fr, w.heap[9]? = some (.cells kCells t fr)
  k0 : ∀ s : Int, 0 ≤ s → s ≤ 11 → w.cell? ⟨9, s.toNat * 3, none⟩ = some (.int .i64 (kKids s))
  k1 : ∀ s : Int, 0 ≤ s → s ≤ 11 → w.cell? ⟨9, s.toNat * 3 + 1, none⟩ = some (.string ⟨(kSign s).toArray⟩)
  k2 : ∀ s : Int, 0 ≤ s → s ≤ 11 → w.cell? ⟨9, s.toNat * 3 + 2, none⟩ = some (.int .i64 (kStr s))

theorem KLaid.below {B : Nat} {w w' : World} (h : KLaid w) (hb : Below B w w') (hB : 9 < B) : KLaid w' where
  sz := Nat.lt_of_lt_of_le h.sz hb.size
  blk := by rw [hb.block 9 (by omega)]; exact h.blk
  k0 s a b := by rw [hb.cell (by exact hB)]; exact h.k0 s a b
  k1 s a b := by rw [hb.cell (by exact hB)]; exact h.k1 s a b
  k2 s a b := by rw [hb.cell (by exact hB)]; exact h.k2 s a b

end Go.Proofs.YtbpoiajpcahdhaaGreatDoor.Xp

namespace Go.Proofs.YtbpoiajpcahdhaaGreatDoor.Xp
open Go.RowKit

end Go.Proofs.YtbpoiajpcahdhaaGreatDoor.Xp

namespace Go.Proofs.YtbpoiajpcahdhaaGreatDoor.Xp
open Go.RowKit

end Go.Proofs.YtbpoiajpcahdhaaGreatDoor.Xp

namespace Go.Proofs.YtbpoiajpcahdhaaGreatDoor.Xp
open Go.RowKit

end Go.Proofs.YtbpoiajpcahdhaaGreatDoor.Xp
