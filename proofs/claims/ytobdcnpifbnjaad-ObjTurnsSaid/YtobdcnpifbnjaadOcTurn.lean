/- The walks of pllaw6.alive and pllaw6.ObjTurns. -/
import Derived.Test.YtobdcnpifbnjaadOcAlive
namespace Go.Proofs.Ytobdcnpifbnjaad
open Go.RowKit

/-- A box of an object, in every later world. -/
def Boxed (w : World) (B : Nat) (a b c : Value) : Prop := w.heap[B]? = some (.cells #[a, b, c] 26 (0, 0))
theorem Boxed.below {w w' : World} {B N : Nat} {a b c : Value} (h : Boxed w B a b c) (hb : Below N w w') (hN : w.heap.size ≤ N) : Boxed w' B a b c := by
  unfold Boxed
  rw [hb.block B (by have := (Array.getElem?_eq_some_iff.1 h).1; omega)]
  exact h
theorem Boxed.cells {w : World} {B : Nat} {a b c : Value} (h : Boxed w B a b c) : w.cell? ⟨B, 0, none⟩ = some a ∧ w.cell? ⟨B, 1, none⟩ = some b ∧ w.cell? ⟨B, 2, none⟩ = some c := ⟨cell_of_block h rfl, cell_of_block h rfl, cell_of_block h rfl⟩
theorem boxed_new (w : World) (a b c : Value) : Boxed (w.alloc (.cells #[a, b, c] 26)) w.heap.size a b c := heap_alloc_new w _
theorem bnext {w w1 w2 : World} (h : Below w.heap.size w w1) (k : Below w1.heap.size w1 w2) : Below w.heap.size w w2 := h.trans (k.mono h.size)

theorem field_code (g1 g2 g3 a b c d e f : Nat) (w : World) : (Instr.field 26 (.agg #[.slice (some ⟨g1, 0, none⟩) a b, .slice (some ⟨g2, 0, none⟩) c d, .slice (some ⟨g3, 0, none⟩) e f]) 0).run Try.prog w = .ok (.slice (some ⟨g1, 0, none⟩) a b) w := by kernel_rfl

set_option maxHeartbeats 4000000 in
theorem alive_any (w : World) : Calls Try.prog 4 #[] w fun e w' => e = .returned (.bool true) ∧ Below w.heap.size w w' := by
  obtain ⟨hb0, hat0⟩ := alive_at w
  have HBX : Hid (Boxed ((aliveW w).alloc (.cells #[.slice (some ⟨w.heap.size, 0, none⟩) 4 4, .slice (some ⟨w.heap.size + 1, 0, none⟩) 1 1, .slice (some ⟨w.heap.size + 2, 0, none⟩) 1 1] 26)) (w.heap.size + 3) (.slice (some ⟨w.heap.size, 0, none⟩) 4 4) (.slice (some ⟨w.heap.size + 1, 0, none⟩) 1 1) (.slice (some ⟨w.heap.size + 2, 0, none⟩) 1 1)) := by
    have := boxed_new (aliveW w) (.slice (some ⟨w.heap.size, 0, none⟩) 4 4) (.slice (some ⟨w.heap.size + 1, 0, none⟩) 1 1) (.slice (some ⟨w.heap.size + 2, 0, none⟩) 1 1)
    have e : (aliveW w).heap.size = w.heap.size + 3 := by unfold aliveW; simp
    rw [e] at this
    exact this
  have HAT : Hid (ObAt ((aliveW w).alloc (.cells #[.slice (some ⟨w.heap.size, 0, none⟩) 4 4, .slice (some ⟨w.heap.size + 1, 0, none⟩) 1 1, .slice (some ⟨w.heap.size + 2, 0, none⟩) 1 1] 26)) (.slice (some ⟨w.heap.size, 0, none⟩) 4 4) (.slice (some ⟨w.heap.size + 1, 0, none⟩) 1 1) (.slice (some ⟨w.heap.size + 2, 0, none⟩) 1 1) aOb) := hat0.below (oalloc _ _) (Nat.le_refl _)
  have HB0 : Hid (Below w.heap.size w ((aliveW w).alloc (.cells #[.slice (some ⟨w.heap.size, 0, none⟩) 4 4, .slice (some ⟨w.heap.size + 1, 0, none⟩) 1 1, .slice (some ⟨w.heap.size + 2, 0, none⟩) 1 1] 26))) := bnext hb0 (oalloc _ _)
  have hnl : ∀ s, s ∈ aOb.syms → s.name.length ≤ maxLen := by
    intro s hs
    simp only [aOb, List.mem_singleton] at hs
    subst hs
    unfold maxLen
    decide
  have HNL := Lib.hid hnl
  clear hb0 hat0 hnl
  unfold aliveW at *
  go_enter Try.func4, Try.ntmps4
  go_wp2_with fail
  refine (bytes_good aOb _ _ _ _ HAT.out.1 HAT.out.2.1 HAT.out.2.2 HNL.out aOb_right).mono ?_
  rintro e w1 ⟨x, rfl, hb1, ho1⟩
  have HB1 := Lib.hid (bnext HB0.out hb1)
  have HX1 := Lib.hid (HBX.out.below hb1 (Nat.le_refl _))
  have HT1 := Lib.hid (HAT.out.below hb1 (Nat.le_refl _))
  have HP1 := Lib.hid (parse_back aOb aOb_right x w1 _ ho1)
  clear hb1 ho1 HB0 HBX HAT
  go_wp2_with fail
  refine HP1.out.mono ?_
  rintro e w2 ⟨hb2, ca, cc, sa, sc, ra, rc, rfl, h1, h2, h3⟩
  have hba := bnext hb2 (oalloc w2 (.cells #[.slice ca aOb.code.length cc, .slice sa aOb.syms.length sc, .slice ra aOb.rels.length rc] 26))
  have HB2 := Lib.hid (bnext HB1.out hba)
  have HX2 := Lib.hid (HX1.out.below hba (Nat.le_refl _))
  have HT2 := Lib.hid (HT1.out.below hba (Nat.le_refl _))
  have HS2 := Lib.hid (same_any aOb _ _ _ _ _ _ _ HT2.out.1 HT2.out.2.1 HT2.out.2.2 (h1.below (oalloc w2 (.cells #[.slice ca aOb.code.length cc, .slice sa aOb.syms.length sc, .slice ra aOb.rels.length rc] 26)) (Nat.le_refl _)) (h2.below (oalloc w2 _) (Nat.le_refl _)) (h3.below (oalloc w2 _) (Nat.le_refl _)))
  obtain ⟨x0, x1, x2⟩ := HX2.out.cells
  obtain ⟨y0, y1, y2⟩ := HX1.out.below hb2 (Nat.le_refl _) |>.cells
  have hlt2 : w.heap.size + 3 < w2.heap.size := (Array.getElem?_eq_some_iff.1 (HX1.out.below hb2 (Nat.le_refl _))).1
  clear hb2 h1 h2 h3 hba HB1 HX1 HT1 HP1
  go_wp2_with fail
  refine HS2.out.mono ?_
  rintro e w3 ⟨rfl, hb3⟩
  have HB3 := Lib.hid (bnext HB2.out hb3)
  have HX3 := Lib.hid (HX2.out.below hb3 (Nat.le_refl _))
  have HT3 := Lib.hid (HT2.out.below hb3 (Nat.le_refl _))
  clear x0 x1 x2 y0 y1 y2
  obtain ⟨x0, x1, x2⟩ := HX3.out.cells
  have hw3 := wrong_any aOb _ _ _ w3 HT3.out.1 HT3.out.2.1 HT3.out.2.2 HNL.out
  rw [aOb_right] at hw3
  have HW3 := Lib.hid hw3
  clear hb3 hw3 HB2 HX2 HT2 HS2
  go_wp2_with fail
  refine HW3.out.mono ?_
  rintro e w4 ⟨rfl, hb4⟩
  have HB4 := Lib.hid (bnext HB3.out hb4)
  have HX4 := Lib.hid (HX3.out.below hb4 (Nat.le_refl _))
  have HT4 := Lib.hid (HT3.out.below hb4 (Nat.le_refl _))
  clear x0 x1 x2
  obtain ⟨x0, x1, x2⟩ := HX4.out.cells
  have HO4 := Lib.hid (own_far aOb _ _ _ w4 HT4.out.1 HT4.out.2.1 HT4.out.2.2 (by decide) (by decide) (by decide))
  clear hb4 HB3 HX3 HT3 HW3
  go_wp2_with fail
  refine HO4.out.mono ?_
  rintro e w5 ⟨g1, g2, g3, rfl, hb5, z⟩
  have HB5 := Lib.hid (bnext HB4.out hb5)
  clear hb5 z HB4 HX4 HT4 HO4 x0 x1 x2
  unfold obV
  have hl : aOb.code.length = 4 := rfl
  have hfd := field_code
  go_wp2
  go_ret
  exact ⟨rfl, HB5.out⟩

end Go.Proofs.Ytobdcnpifbnjaad
