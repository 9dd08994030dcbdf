/- The contract of the document's own SameMsg: of two messages that are the same. -/
import Derived.Test.YtmbjahjkgjkbhaaDoorWrA
namespace Go.Proofs.YtmbjahjkgjkbhaaDoor
open Go.RowKit

set_option maxHeartbeats 4000000 in
theorem msame_any (m : Ms) (dv dv' : Value) (w : World) (hC : OBytes w dv m.data) (hC' : OBytes w dv' m.data) :
    Calls Tryd.prog 12 #[msV m dv, msV m dv'] w fun e w' => e = .returned (.bool true) ∧ Below w.heap.size w w' := by
  have hcv : ∀ p q : Obj, (convert 25 9 dv).run Tryd.prog ((w.alloc p).alloc q) = .ok (.string ⟨m.data.toArray⟩) ((w.alloc p).alloc q) := fun p q => oconv (hC.below ((oalloc w p).alloc (by simp) q) (Nat.le_refl _))
  have hcv' : ∀ p q : Obj, (convert 25 9 dv').run Tryd.prog ((w.alloc p).alloc q) = .ok (.string ⟨m.data.toArray⟩) ((w.alloc p).alloc q) := fun p q => oconv (hC'.below ((oalloc w p).alloc (by simp) q) (Nat.le_refl _))
  have HA : Hid (∀ o o', Below w.heap.size w ((w.alloc o).alloc o')) := fun o o' => (oalloc w o).alloc (by simp) o'
  obtain ⟨cad, ccap, rfl, _, z1⟩ := hC
  obtain ⟨cad', ccap', rfl, _, z1'⟩ := hC'
  clear z1 z1'
  obtain ⟨k, wk, u, t, x, p, l⟩ := m
  unfold msV
  simp only at *
  generalize l.length = n at *
  go_enter Tryd.func12, Tryd.ntmps12
  go_wp2
  go_ret
  exact ⟨rfl, HA.out _ _⟩

end Go.Proofs.YtmbjahjkgjkbhaaDoor
