/- asm: the bytes of a number. -/
import Derived.Test.YtbpoiajpcahdhaaGreatDoorPut13
import Derived.Test.YtbpoiajpcahdhaaGreatDoorIsaPut
namespace Go.Proofs.YtbpoiajpcahdhaaGreatDoor
open Go.RowKit

set_option maxHeartbeats 4000000 in
theorem number1_any (p s : Int) (gu gs gv : Nat) (size : Nat) (n : Int) (w : World) (hs : w.cell? ⟨gs, 0, none⟩ = some (.int .i64 size)) (hv0 : w.cell? ⟨gv, 0, none⟩ = some (.string ⟨#[]⟩)) (hv1 : w.cell? ⟨gv, 1, none⟩ = some (.int .i64 n)) (h4 : size ≤ 4) (hgs : gs < w.heap.size) (hgv : gv < w.heap.size) :
    Calls Tryz.prog 130 #[.int .i64 p, .int .i64 s, .pointer (some ⟨gv, 0, none⟩), .pointer (some ⟨gs, 0, none⟩), .pointer (some ⟨gu, 0, none⟩)] w fun r w' =>
      (∃ g, r = .returned (.tuple #[.slice (some ⟨g, 0, none⟩) size size, .int .i64 0]) ∧ w.heap.size ≤ g ∧ g < w'.heap.size ∧ ∀ i, i < size → w'.cell? ⟨g, i, none⟩ = some (.int .u8 (Isa.putAt (fun _ => 0) 0 size n i))) ∧ Below w.heap.size w w' := by
  have hm := fun W => makeB size (by omega) W
  have HZ : Hid (∀ i, i < size → (w.alloc (.cells (madeCells #[.int .u8 0] size) 5)).cell? ⟨w.heap.size, i, none⟩ = some (.int .u8 0)) := fun i hi =>
    (World.rowIs_made w (.int .u8 0) size 5).cell hi
  have HP : Hid (∀ W, Below w.heap.size w W → (∀ i, i < size → W.cell? ⟨w.heap.size, i, none⟩ = some (.int .u8 0)) → Calls Tryz.prog 66 #[.slice (some ⟨w.heap.size, 0, none⟩) size size, .int .i64 0, .int .i64 size, .int .i64 n] W fun e w' => ∃ g, e = .returned (.slice (some ⟨g, 0, none⟩) size size) ∧ w.heap.size ≤ g ∧ g < w'.heap.size ∧ (∀ i, i < size → w'.cell? ⟨g, i, none⟩ = some (.int .u8 (Isa.putAt (fun _ => 0) 0 size n i))) ∧ Below w.heap.size w w') := by
    intro W hW hc
    refine (Isa.put_any (some ⟨w.heap.size, 0, none⟩) size size (fun _ => 0) 0 size n W (by omega) (fun _ => ⟨w.heap.size, 0, rfl, fun i hi => by rw [Nat.zero_add]; exact hc i hi⟩) (by omega) (by omega) (by omega) (by omega)).mono ?_
    rintro e w' ⟨rfl, hb, hlt, hcell⟩
    exact ⟨_, rfl, hW.size, hlt, hcell, hW.trans (hb.mono hW.size)⟩
  go_enter Tryz.func130, Tryz.ntmps130
  go_wp2
  go_region_with (go_at_call 66; refine (HP.out _ (by repeat' first | exact oalloc w _ | apply Below.drew) (by intro i hi; exact HZ.out i hi)).mono ?_; rintro e w2 ⟨g, rfl, hg1, hg2, hc2, hb2⟩)
  all_goals go_wp2
  all_goals go_ret2
  all_goals exact ⟨⟨g, rfl, hg1, hg2, hc2⟩, hb2⟩

end Go.Proofs.YtbpoiajpcahdhaaGreatDoor
