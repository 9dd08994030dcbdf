/- The contract of the closed fact that is asked first. -/
import Derived.Test.YtmbjahjkgjkbhaaDoorWrH
import Derived.Test.YtmbjahjkgjkbhaaDoorWrI
import Derived.Lib.SlBytesConst
namespace Go.Proofs.YtmbjahjkgjkbhaaDoor
open Go.RowKit

def aMs : Ms := ⟨1, 1, 2, 300, 0, 0, [110, 111, 112]⟩
theorem aMs_right : wrongM aMs = 0 := by decide
theorem aMs_parse : parseM (bytesM aMs) = .ok aMs := parse_bytesM aMs aMs_right

structure AW (w W : World) : Prop where
  bel : Below w.heap.size w W
  row : W.heap[w.heap.size]? = some (.cells #[.int .u8 110, .int .u8 111, .int .u8 112] 5 (3, 4))
  box : W.heap[w.heap.size + 1]? = some (.cells #[.int .i64 1, .int .i64 1, .int .i64 2, .int .i64 300, .int .i64 0, .int .i64 0, .slice (some ⟨w.heap.size, 0, none⟩) 3 3] 27 (0, 0))
theorem AW.next {w W W' : World} (h : AW w W) (hb : Below W.heap.size W W') : AW w W' :=
  ⟨bnext h.bel hb, (hb.block _ (Array.getElem?_eq_some_iff.1 h.row).1).trans h.row, (hb.block _ (Array.getElem?_eq_some_iff.1 h.box).1).trans h.box⟩
theorem aw_start (w : World) : AW w ((w.alloc (.cells #[.int .u8 110, .int .u8 111, .int .u8 112] 5 (3, 4))).alloc (.cells #[.int .i64 1, .int .i64 1, .int .i64 2, .int .i64 300, .int .i64 0, .int .i64 0, .slice (some ⟨w.heap.size, 0, none⟩) 3 3] 27)) := by
  refine ⟨(oalloc w _).alloc (by simp) _, ?_, ?_⟩
  · rw [Below.heap_alloc _ _ _ (by simp)]; exact heap_alloc_new w _
  · have := heap_alloc_new (w.alloc (.cells #[.int .u8 110, .int .u8 111, .int .u8 112] 5 (3, 4))) (.cells #[.int .i64 1, .int .i64 1, .int .i64 2, .int .i64 300, .int .i64 0, .int .i64 0, .slice (some ⟨w.heap.size, 0, none⟩) 3 3] 27)
    simpa using this
theorem AW.data {w W : World} (h : AW w W) : OBytes W (.slice (some ⟨w.heap.size, 0, none⟩) 3 3) aMs.data :=
  bytes_of_src (l := aMs.data) (cap := 3) (fun _ => ⟨w.heap.size, 0, rfl, (Array.getElem?_eq_some_iff.1 h.row).1, fun j v hj => by
    rw [Nat.zero_add]
    exact cell_of_block h.row (by simpa [bcells, aMs] using hj)⟩) (by unfold maxLen; decide)
theorem AW.cells {w W : World} (h : AW w W) : W.cell? ⟨w.heap.size + 1, 0, none⟩ = some (.int .i64 1) ∧ W.cell? ⟨w.heap.size + 1, 1, none⟩ = some (.int .i64 1) ∧ W.cell? ⟨w.heap.size + 1, 2, none⟩ = some (.int .i64 2) ∧ W.cell? ⟨w.heap.size + 1, 3, none⟩ = some (.int .i64 300) ∧ W.cell? ⟨w.heap.size + 1, 4, none⟩ = some (.int .i64 0) ∧ W.cell? ⟨w.heap.size + 1, 5, none⟩ = some (.int .i64 0) ∧ W.cell? ⟨w.heap.size + 1, 6, none⟩ = some (.slice (some ⟨w.heap.size, 0, none⟩) 3 3) :=
  ⟨cell_of_block h.box rfl, cell_of_block h.box rfl, cell_of_block h.box rfl, cell_of_block h.box rfl, cell_of_block h.box rfl, cell_of_block h.box rfl, cell_of_block h.box rfl⟩

set_option maxHeartbeats 8000000 in
theorem walive_any (w : World) (hW : WL w) : Calls Tryd.prog 13 #[] w fun e w' => e = .returned (.bool true) ∧ Below w.heap.size w w' := by
  have HWL : Hid (∀ W, Below w.heap.size w W → WL W) := fun W h => hW.below h (Nat.le_refl _)
  have HBY : Hid (∀ W, AW w W → Calls Tryd.prog 6 #[.agg #[.int .i64 1, .int .i64 1, .int .i64 2, .int .i64 300, .int .i64 0, .int .i64 0, .slice (some ⟨w.heap.size, 0, none⟩) 3 3]] W fun e w' => ∃ ad cap, e = .returned (.tuple #[.slice ad 17 cap, .int .i64 0]) ∧ AW w w' ∧ RB w' w'.heap.size (.slice ad 17 cap) (bytesM aMs)) := fun W h => by
    refine (mbytes_good aMs _ W h.data (HWL.out W h.bel) aMs_right).mono ?_
    rintro e w' ⟨v, rfl, hb, ho⟩
    obtain ⟨ad, cap, e2, h2⟩ := ho.rb
    subst e2
    exact ⟨ad, cap, rfl, h.next hb, ⟨ad, cap, rfl, h2⟩⟩
  have HPA : Hid (∀ W v, AW w W → RB W W.heap.size v (bytesM aMs) → Calls Tryd.prog 10 #[v] W fun e w' => ∃ ad n cap, e = .returned (.tuple #[.agg #[.int .i64 1, .int .i64 1, .int .i64 2, .int .i64 300, .int .i64 0, .int .i64 0, .slice ad n cap], .int .i64 0]) ∧ AW w w' ∧ OBytes w' (.slice ad n cap) aMs.data) := fun W v h hr => by
    refine (mparse_any (bytesM aMs) v W hr (by rw [bytesM_len]; decide) (HWL.out W h.bel)).mono ?_
    rintro e w' ⟨hb, he⟩
    rw [aMs_parse] at he
    obtain ⟨dv, rfl, ho⟩ := he
    have hby := ho.bytes (by unfold maxLen; decide)
    obtain ⟨ad, cap, rfl, _⟩ := id hby
    exact ⟨ad, _, cap, rfl, h.next hb, hby⟩
  have HSA : Hid (∀ W ad n cap, AW w W → OBytes W (.slice ad n cap) aMs.data → Calls Tryd.prog 12 #[.agg #[.int .i64 1, .int .i64 1, .int .i64 2, .int .i64 300, .int .i64 0, .int .i64 0, .slice (some ⟨w.heap.size, 0, none⟩) 3 3], .agg #[.int .i64 1, .int .i64 1, .int .i64 2, .int .i64 300, .int .i64 0, .int .i64 0, .slice ad n cap]] W fun e w' => e = .returned (.bool true) ∧ AW w w') := fun W ad n cap h hd => by
    refine (msame_any aMs _ _ W h.data hd).mono ?_
    rintro e w' ⟨rfl, hb⟩
    exact ⟨rfl, h.next hb⟩
  have HWR : Hid (∀ W, AW w W → Calls Tryd.prog 8 #[.agg #[.int .i64 1, .int .i64 1, .int .i64 2, .int .i64 300, .int .i64 0, .int .i64 0, .slice (some ⟨w.heap.size, 0, none⟩) 3 3]] W fun e w' => e = .returned (.int .i64 0) ∧ AW w w') := fun W h => by
    refine (wrong_any aMs (some ⟨w.heap.size, 0, none⟩) 3 W).mono ?_
    rintro e w' ⟨rfl, hb⟩
    exact ⟨by rw [aMs_right], h.next hb⟩
  clear hW
  have kc := fun (w : World) (C : Array Value) (n c : Nat) => Lib.run_convert_bytes_const (P := Tryd.prog) w 25 5 C n c Tryd.underlying25 Tryd.underlying5
  go_enter Tryd.func13, Tryd.ntmps13
  go_wp2_with (first | (go_at_call 6; refine (HBY.out _ (aw_start w)).mono ?_; rintro e w1 ⟨ad1, cap1, rfl, ha1, hr1⟩; have HA1 := Lib.hid ha1; have HR1 := Lib.hid hr1; clear ha1 hr1) | (go_at_call 10; refine (HPA.out _ _ HA1.out HR1.out).mono ?_; rintro e w2 ⟨ad2, n2, cap2, rfl, ha2, hd2⟩; obtain ⟨c0, c1, c2, c3, c4, c5, c6⟩ := ha2.cells; have hz2 : w.heap.size + 1 < w2.heap.size := (Array.getElem?_eq_some_iff.1 ha2.box).1; have HA2 : Hid (∀ o, AW w (w2.alloc o)) := fun o => ha2.next (oalloc _ _); have HD2 : Hid (∀ o, OBytes (w2.alloc o) (.slice ad2 n2 cap2) aMs.data) := fun o => hd2.below (oalloc _ _) (Nat.le_refl _); clear ha2 hd2) | (go_at_call 12; refine (HSA.out _ _ _ _ (HA2.out _) (HD2.out _)).mono ?_; rintro e w3 ⟨rfl, ha3⟩; obtain ⟨d0, d1, d2, d3, d4, d5, d6⟩ := ha3.cells; have HA3 := Lib.hid ha3; clear ha3) | (go_at_call 8; refine (HWR.out _ HA3.out).mono ?_; rintro e w4 ⟨rfl, ha4⟩; have HA4 := Lib.hid ha4; clear ha4))
  go_ret
  exact ⟨rfl, HA4.out.bel⟩

end Go.Proofs.YtmbjahjkgjkbhaaDoor
