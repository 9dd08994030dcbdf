/- The contract of the document's own Wrong. -/
import Derived.Test.YtgadpimknobljaaDoorIsaRefA
import Derived.Deep.DeepCutAuto
namespace Go.Proofs.YtgadpimknobljaaDoor.Isa
open Go.RowKit

theorem refBits_size (k : Int) (h0 : 0 ≤ k) (h1 : k ≤ 27) : (refBits k).size ≤ 16 := by
  obtain ⟨j, rfl⟩ := Int.eq_ofNat_of_zero_le h0
  have : ∀ i : Fin 28, (refBits (i.val : Int)).size ≤ 16 := by decide +kernel
  exact this ⟨j, by omega⟩

/-- Which registers a row's text has. -/
theorem has_regs (k : Int) (h0 : 1 ≤ k) (h1 : k ≤ 27) : hasB (refBits k) 110 = (layN (opShape k) != 0) ∧ hasB (refBits k) 109 = (layM (opShape k) != 0) ∧ (layN (opShape k) = 0 ∨ layN (opShape k) = 15) ∧ (layM (opShape k) = 0 ∨ layM (opShape k) = 15) := by
  obtain ⟨j, rfl⟩ := Int.eq_ofNat_of_zero_le (show 0 ≤ k by omega)
  have : ∀ i : Fin 28, i.val ≠ 0 → hasB (refBits (i.val : Int)) 110 = (layN (opShape (i.val : Int)) != 0) ∧ hasB (refBits (i.val : Int)) 109 = (layM (opShape (i.val : Int)) != 0) ∧ (layN (opShape (i.val : Int)) = 0 ∨ layN (opShape (i.val : Int)) = 15) ∧ (layM (opShape (i.val : Int)) = 0 ∨ layM (opShape (i.val : Int)) = 15) := by decide +kernel
  exact this ⟨j, by omega⟩ (by show j ≠ 0; omega)

/-- What plref1.Rows makes, said of a world that is a letter. -/
theorem rows_let (w : World) : Calls Tryd.prog 21 #[] w fun e w' => ∃ g, e = .returned (.map (some g)) ∧ w'.heap[g]? = some (mapOf 27) ∧ Below w.heap.size w w' ∧ g < w'.heap.size ∧ w.heap.size ≤ g := by
  refine (rows_any w).mono ?_
  rintro e w' ⟨rfl, rfl⟩
  exact ⟨w.heap.size, rfl, heap_alloc_new w _, (Below.refl _ _).alloc (Nat.le_refl _) _, by simp, Nat.le_refl _⟩

theorem look_alloc {w1 : World} {g : Nat} (hg : w1.heap[g]? = some (mapOf 27)) (hlt : g < w1.heap.size) (O : Obj) : (w1.alloc O).heap[g]? = some (mapOf 27) := by
  rw [Below.heap_alloc w1 O g hlt]; exact hg

/-- The instruction's box stays. -/
theorem keepBox {w x y : World} {a b c d : Value} (hb : Below x.heap.size x y)
    (h : w.heap.size < x.heap.size ∧ x.cell? ⟨w.heap.size, 0, none⟩ = some a ∧ x.cell? ⟨w.heap.size, 1, none⟩ = some b ∧ x.cell? ⟨w.heap.size, 2, none⟩ = some c ∧ x.cell? ⟨w.heap.size, 3, none⟩ = some d ∧ Below w.heap.size w x) :
    w.heap.size < y.heap.size ∧ y.cell? ⟨w.heap.size, 0, none⟩ = some a ∧ y.cell? ⟨w.heap.size, 1, none⟩ = some b ∧ y.cell? ⟨w.heap.size, 2, none⟩ = some c ∧ y.cell? ⟨w.heap.size, 3, none⟩ = some d ∧ Below w.heap.size w y := by
  obtain ⟨h0, h1, h2, h3, h4, h5⟩ := h
  exact ⟨Nat.lt_of_lt_of_le h0 hb.size, by rw [hb.cell h0]; exact h1, by rw [hb.cell h0]; exact h2, by rw [hb.cell h0]; exact h3, by rw [hb.cell h0]; exact h4, h5.trans (hb.mono (by omega))⟩

theorem keepSet {w x : World} {a b c d v : Value} {g i : Nat} (hg : w.heap.size < g)
    (h : w.heap.size < x.heap.size ∧ x.cell? ⟨w.heap.size, 0, none⟩ = some a ∧ x.cell? ⟨w.heap.size, 1, none⟩ = some b ∧ x.cell? ⟨w.heap.size, 2, none⟩ = some c ∧ x.cell? ⟨w.heap.size, 3, none⟩ = some d ∧ Below w.heap.size w x) :
    w.heap.size < (x.setCell ⟨g, i, none⟩ v).heap.size ∧ (x.setCell ⟨g, i, none⟩ v).cell? ⟨w.heap.size, 0, none⟩ = some a ∧ (x.setCell ⟨g, i, none⟩ v).cell? ⟨w.heap.size, 1, none⟩ = some b ∧ (x.setCell ⟨g, i, none⟩ v).cell? ⟨w.heap.size, 2, none⟩ = some c ∧ (x.setCell ⟨g, i, none⟩ v).cell? ⟨w.heap.size, 3, none⟩ = some d ∧ Below w.heap.size w (x.setCell ⟨g, i, none⟩ v) := by
  obtain ⟨h0, h1, h2, h3, h4, h5⟩ := h
  have hne : ∀ j, (⟨g, i, none⟩ : Addr) ≠ ⟨w.heap.size, j, none⟩ := fun j e => by cases e; omega
  exact ⟨by simpa using h0, by rw [World.cell?_setCell_other _ _ _ _ (hne 0)]; exact h1, by rw [World.cell?_setCell_other _ _ _ _ (hne 1)]; exact h2, by rw [World.cell?_setCell_other _ _ _ _ (hne 2)]; exact h3, by rw [World.cell?_setCell_other _ _ _ _ (hne 3)]; exact h4, h5.setCell (by show w.heap.size ≤ g; omega) _⟩

theorem startBox (w : World) (a b c d : Value) : w.heap.size < (w.alloc (.cells #[a, b, c, d] 24)).drew.heap.size ∧ (w.alloc (.cells #[a, b, c, d] 24)).drew.cell? ⟨w.heap.size, 0, none⟩ = some a ∧ (w.alloc (.cells #[a, b, c, d] 24)).drew.cell? ⟨w.heap.size, 1, none⟩ = some b ∧ (w.alloc (.cells #[a, b, c, d] 24)).drew.cell? ⟨w.heap.size, 2, none⟩ = some c ∧ (w.alloc (.cells #[a, b, c, d] 24)).drew.cell? ⟨w.heap.size, 3, none⟩ = some d ∧ Below w.heap.size w (w.alloc (.cells #[a, b, c, d] 24)).drew := by
  refine ⟨?_, ?_, ?_, ?_, ?_, ((Below.refl _ _).alloc (Nat.le_refl _) _).drew⟩ <;> simp

theorem startBox' (w : World) (a b c d : Value) : w.heap.size < (w.alloc (.cells #[a, b, c, d] 24)).heap.size ∧ (w.alloc (.cells #[a, b, c, d] 24)).cell? ⟨w.heap.size, 0, none⟩ = some a ∧ (w.alloc (.cells #[a, b, c, d] 24)).cell? ⟨w.heap.size, 1, none⟩ = some b ∧ (w.alloc (.cells #[a, b, c, d] 24)).cell? ⟨w.heap.size, 2, none⟩ = some c ∧ (w.alloc (.cells #[a, b, c, d] 24)).cell? ⟨w.heap.size, 3, none⟩ = some d ∧ Below w.heap.size w (w.alloc (.cells #[a, b, c, d] 24)) := by
  refine ⟨?_, ?_, ?_, ?_, ?_, (Below.refl _ _).alloc (Nat.le_refl _) _⟩ <;> simp

theorem keepDrew {w x : World} {a b c d : Value} (h : w.heap.size < x.heap.size ∧ x.cell? ⟨w.heap.size, 0, none⟩ = some a ∧ x.cell? ⟨w.heap.size, 1, none⟩ = some b ∧ x.cell? ⟨w.heap.size, 2, none⟩ = some c ∧ x.cell? ⟨w.heap.size, 3, none⟩ = some d ∧ Below w.heap.size w x) :
    w.heap.size < x.drew.heap.size ∧ x.drew.cell? ⟨w.heap.size, 0, none⟩ = some a ∧ x.drew.cell? ⟨w.heap.size, 1, none⟩ = some b ∧ x.drew.cell? ⟨w.heap.size, 2, none⟩ = some c ∧ x.drew.cell? ⟨w.heap.size, 3, none⟩ = some d ∧ Below w.heap.size w x.drew :=
  ⟨h.1, h.2.1, h.2.2.1, h.2.2.2.1, h.2.2.2.2.1, h.2.2.2.2.2.drew⟩

theorem set3 {x : World} {g : Nat} {a b c u0 u1 u2 : Value} (h0 : x.cell? ⟨g, 0, none⟩ = some u0) (h1 : x.cell? ⟨g, 1, none⟩ = some u1) (h2 : x.cell? ⟨g, 2, none⟩ = some u2) :
    (((x.setCell ⟨g, 0, none⟩ a).setCell ⟨g, 1, none⟩ b).setCell ⟨g, 2, none⟩ c).cell? ⟨g, 0, none⟩ = some a ∧ (((x.setCell ⟨g, 0, none⟩ a).setCell ⟨g, 1, none⟩ b).setCell ⟨g, 2, none⟩ c).cell? ⟨g, 1, none⟩ = some b ∧ (((x.setCell ⟨g, 0, none⟩ a).setCell ⟨g, 1, none⟩ b).setCell ⟨g, 2, none⟩ c).cell? ⟨g, 2, none⟩ = some c := by
  have d01 : (⟨g, 0, none⟩ : Addr) ≠ ⟨g, 1, none⟩ := by simp
  have d02 : (⟨g, 0, none⟩ : Addr) ≠ ⟨g, 2, none⟩ := by simp
  have d12 : (⟨g, 1, none⟩ : Addr) ≠ ⟨g, 2, none⟩ := by simp
  refine ⟨?_, ?_, ?_⟩
  · rw [World.cell?_setCell_other _ _ _ _ d02.symm, World.cell?_setCell_other _ _ _ _ d01.symm, World.cell?_setCell_same _ _ _ h0]
  · rw [World.cell?_setCell_other _ _ _ _ d12.symm, World.cell?_setCell_same (u := u1)]
    rw [World.cell?_setCell_other _ _ _ _ d01]; exact h1
  · rw [World.cell?_setCell_same (u := u2)]
    rw [World.cell?_setCell_other _ _ _ _ d12, World.cell?_setCell_other _ _ _ _ d02]; exact h2

/-- What is known behind 'r, ok := Rows()[i.Op]': the row lies in box g. -/
def RowIn (w : World) (op n m imm : Int) (g : Nat) (x : World) : Prop :=
  (w.heap.size < x.heap.size ∧ x.cell? ⟨w.heap.size, 0, none⟩ = some (.int .i64 op) ∧ x.cell? ⟨w.heap.size, 1, none⟩ = some (.int .i64 n) ∧ x.cell? ⟨w.heap.size, 2, none⟩ = some (.int .i64 m) ∧ x.cell? ⟨w.heap.size, 3, none⟩ = some (.int .i64 imm) ∧ Below w.heap.size w x)
    ∧ g < x.heap.size ∧ w.heap.size < g ∧ x.cell? ⟨g, 0, none⟩ = some (.string (infoName op)) ∧ x.cell? ⟨g, 1, none⟩ = some (.int .i64 (infoShape op)) ∧ x.cell? ⟨g, 2, none⟩ = some (.string (refTxt op))

theorem rowIn_new {w w1 : World} {op n m imm : Int} (hz : w.heap.size < w1.heap.size)
    (h : w.heap.size < (w1.alloc (.cells #[.string (infoName op), .int .i64 (infoShape op), .string (refTxt op)] 51)).heap.size ∧ (w1.alloc (.cells #[.string (infoName op), .int .i64 (infoShape op), .string (refTxt op)] 51)).cell? ⟨w.heap.size, 0, none⟩ = some (.int .i64 op) ∧ (w1.alloc (.cells #[.string (infoName op), .int .i64 (infoShape op), .string (refTxt op)] 51)).cell? ⟨w.heap.size, 1, none⟩ = some (.int .i64 n) ∧ (w1.alloc (.cells #[.string (infoName op), .int .i64 (infoShape op), .string (refTxt op)] 51)).cell? ⟨w.heap.size, 2, none⟩ = some (.int .i64 m) ∧ (w1.alloc (.cells #[.string (infoName op), .int .i64 (infoShape op), .string (refTxt op)] 51)).cell? ⟨w.heap.size, 3, none⟩ = some (.int .i64 imm) ∧ Below w.heap.size w (w1.alloc (.cells #[.string (infoName op), .int .i64 (infoShape op), .string (refTxt op)] 51))) :
    RowIn w op n m imm w1.heap.size (w1.alloc (.cells #[.string (infoName op), .int .i64 (infoShape op), .string (refTxt op)] 51)) :=
  ⟨h, by simp, hz, by simp, by simp, by simp⟩

set_option maxHeartbeats 1000000 in
theorem rWrong_no (op n m imm : Int) (w : World) (hk : knownB op = false) :
    Calls Tryd.prog 6 #[.agg #[.int .i64 op, .int .i64 n, .int .i64 m, .int .i64 imm]] w fun e w' => e = .returned (.int .i64 1) ∧ Below w.heap.size w w' := by
  have HK : Hid (knownB op = false) := hk
  clear hk
  go_enter Tryd.func6, Tryd.ntmps6
  go_wp2_with fail
  go_cut [3, 4] (fun s3 s4 wc => ∃ g, s3 = .pointer (some ⟨g, 0, none⟩) ∧ s4 = .bool (knownB op) ∧ RowIn w op n m imm g wc)
  case first =>
    go_region_held3 (fun w' => w.heap.size < w'.heap.size ∧ w'.cell? ⟨w.heap.size, 0, none⟩ = some (.int .i64 op) ∧ w'.cell? ⟨w.heap.size, 1, none⟩ = some (.int .i64 n) ∧ w'.cell? ⟨w.heap.size, 2, none⟩ = some (.int .i64 m) ∧ w'.cell? ⟨w.heap.size, 3, none⟩ = some (.int .i64 imm) ∧ Below w.heap.size w w')
      (first | exact startBox w _ _ _ _ | assumption | exact keepBox hb1 (by assumption) | exact keepBox ((Below.refl _ _).alloc (Nat.le_refl _) _) (by assumption) | exact keepBox ((Below.refl _ _).alloc (Nat.le_refl _) _) (keepBox hb1 (startBox w _ _ _ _)) | exact keepSet (by omega) (keepSet (by omega) (keepSet (by omega) (by assumption))))
      ((go_at_call 21; refine (rows_let _).mono ?_; rintro e w1 ⟨g, rfl, hg1, hb1, hg2, hg3⟩; have hl1 := fun k => run_look_ok w1 g k hg1; have hl2 := fun O k => run_look_ok (w1.alloc O) g k (look_alloc hg1 hg2 O); obtain ⟨hc1, hf1⟩ := bcell hb1))
    all_goals
      have hz1 := hb1.size
      simp at hz1
      go_wp2_with fail
      go_meet
    · exact ⟨_, rfl, rfl, rowIn_new (by omega) (by assumption)⟩
    · exact ⟨_, rfl, rfl, rowIn_new (by omega) (by assumption)⟩
    · rename_i hH
      obtain ⟨q0, q1, q2⟩ := set3 (x := w1) (g := w.heap.size + 1) (a := .string (infoName op)) (b := .int .i64 (infoShape op)) (c := .string (refTxt op)) (u0 := .string ⟨#[]⟩) (u1 := .int .i64 0) (u2 := .string ⟨#[]⟩) (by rw [hc1 _ _ (by simp)]; simp) (by rw [hc1 _ _ (by simp)]; simp) (by rw [hc1 _ _ (by simp)]; simp)
      exact ⟨_, rfl, rfl, hH, by simp; omega, by omega, q0, q1, q2⟩
  case rest =>
    obtain ⟨g, rfl, rfl, hR⟩ := hcut
    rw [HK.out]
    have HB : Hid (Below w.heap.size w wc) := hR.1.2.2.2.2.2
    clear hR
    go_wp2
    go_ret
    exact ⟨rfl, HB.out⟩

end Go.Proofs.YtgadpimknobljaaDoor.Isa
