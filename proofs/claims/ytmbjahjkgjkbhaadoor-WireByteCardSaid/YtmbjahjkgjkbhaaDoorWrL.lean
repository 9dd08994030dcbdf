/- The contract of the law: one byte turned is found. -/
import Derived.Test.YtmbjahjkgjkbhaaDoorWrK
namespace Go.Proofs.YtmbjahjkgjkbhaaDoor
open Go.RowKit

set_option maxHeartbeats 4000000 in
theorem byte_w (m : Ms) (ad : Option Addr) (cap : Nat) (a c : Int) (w : World) (hW : WL w) (hw : wrongM m ≠ 0) :
    Calls Tryd.prog 5 #[msV m (.slice ad m.data.length cap), .int .i64 a, .int .u8 c] w fun e w' => e = .returned (.bool true) ∧ Below w.heap.size w w' := by
  have HWL : Hid (∀ W, Below w.heap.size w W → WL W) := fun W h => hW.below h (Nat.le_refl _)
  have HAL : Hid (∀ W, Below w.heap.size w W → Calls Tryd.prog 13 #[] W fun e w' => e = .returned (.bool true) ∧ Below W.heap.size W w') := fun W h => walive_any W (HWL.out W h)
  have HWR : Hid (∀ W, Calls Tryd.prog 8 #[msV m (.slice ad m.data.length cap)] W fun e w' => e = .returned (.int .i64 (wrongM m)) ∧ Below W.heap.size W w') := fun W => wrong_any m ad cap W
  have HST : Hid (∀ dv : Value, TW w (w.alloc (.cells #[.int .i64 m.kind, .int .i64 m.worker, .int .i64 m.unit, .int .i64 m.turn, .int .i64 m.err, .int .i64 m.place, dv] 27)) m.kind m.worker m.unit m.turn m.err m.place dv) := fun dv => tw_start w _ _ _ _ _ _ dv
  have hw0 : (wrongM m != 0) = true := bne_iff_ne.2 hw
  generalize wrongM m = y at *
  clear hw
  clear hW HWL
  unfold msV at *
  obtain ⟨k, wk, u, t, x, p, ml⟩ := m
  simp only at *
  generalize ml.length = mn at *
  go_enter Tryd.func5, Tryd.ntmps5
  go_wp2_with (first | (go_at_call 13; refine (HAL.out _ (HST.out _).bel).mono ?_; rintro e w1 ⟨rfl, hb1⟩; have h1 := (HST.out _).next hb1; obtain ⟨c0, c1, c2, c3, c4, c5, c6, hz⟩ := h1.cells; have H1 := Lib.hid h1; clear hb1 h1) | (go_at_call 8; refine (HWR.out _).mono ?_; rintro e w2 ⟨rfl, hb2⟩; have h2 := H1.out.next hb2; obtain ⟨d0, d1, d2, d3, d4, d5, d6, hz2⟩ := h2.cells; have H2 := Lib.hid h2; clear hb2 h2 c0 c1 c2 c3 c4 c5 c6))
  go_ret
  exact ⟨rfl, H2.out.bel⟩

set_option maxHeartbeats 4000000 in
theorem byte_neg (m : Ms) (ad : Option Addr) (cap : Nat) (a c : Int) (w : World) (hW : WL w) (hw : wrongM m = 0) (ha : a < 0) :
    Calls Tryd.prog 5 #[msV m (.slice ad m.data.length cap), .int .i64 a, .int .u8 c] w fun e w' => e = .returned (.bool true) ∧ Below w.heap.size w w' := by
  have HWL : Hid (∀ W, Below w.heap.size w W → WL W) := fun W h => hW.below h (Nat.le_refl _)
  have HAL : Hid (∀ W, Below w.heap.size w W → Calls Tryd.prog 13 #[] W fun e w' => e = .returned (.bool true) ∧ Below W.heap.size W w') := fun W h => walive_any W (HWL.out W h)
  have HWR : Hid (∀ W, Calls Tryd.prog 8 #[msV m (.slice ad m.data.length cap)] W fun e w' => e = .returned (.int .i64 (wrongM m)) ∧ Below W.heap.size W w') := fun W => wrong_any m ad cap W
  have HST : Hid (∀ dv : Value, TW w (w.alloc (.cells #[.int .i64 m.kind, .int .i64 m.worker, .int .i64 m.unit, .int .i64 m.turn, .int .i64 m.err, .int .i64 m.place, dv] 27)) m.kind m.worker m.unit m.turn m.err m.place dv) := fun dv => tw_start w _ _ _ _ _ _ dv
  rw [hw] at HWR
  clear hw
  clear hW HWL
  unfold msV at *
  obtain ⟨k, wk, u, t, x, p, ml⟩ := m
  simp only at *
  generalize ml.length = mn at *
  go_enter Tryd.func5, Tryd.ntmps5
  go_wp2_with (first | (go_at_call 13; refine (HAL.out _ (HST.out _).bel).mono ?_; rintro e w1 ⟨rfl, hb1⟩; have h1 := (HST.out _).next hb1; obtain ⟨c0, c1, c2, c3, c4, c5, c6, hz⟩ := h1.cells; have H1 := Lib.hid h1; clear hb1 h1) | (go_at_call 8; refine (HWR.out _).mono ?_; rintro e w2 ⟨rfl, hb2⟩; have h2 := H1.out.next hb2; obtain ⟨d0, d1, d2, d3, d4, d5, d6, hz2⟩ := h2.cells; have H2 := Lib.hid h2; clear hb2 h2 c0 c1 c2 c3 c4 c5 c6))
  go_ret
  exact ⟨rfl, H2.out.bel⟩

set_option maxHeartbeats 4000000 in
theorem byte_far (m : Ms) (ad : Option Addr) (cap : Nat) (a c : Int) (w : World) (hW : WL w) (hw : wrongM m = 0) (h0 : ¬ a < 0) (ha : (m.data.length : Int) ≤ a) :
    Calls Tryd.prog 5 #[msV m (.slice ad m.data.length cap), .int .i64 a, .int .u8 c] w fun e w' => e = .returned (.bool true) ∧ Below w.heap.size w w' := by
  have HWL : Hid (∀ W, Below w.heap.size w W → WL W) := fun W h => hW.below h (Nat.le_refl _)
  have HAL : Hid (∀ W, Below w.heap.size w W → Calls Tryd.prog 13 #[] W fun e w' => e = .returned (.bool true) ∧ Below W.heap.size W w') := fun W h => walive_any W (HWL.out W h)
  have HWR : Hid (∀ W, Calls Tryd.prog 8 #[msV m (.slice ad m.data.length cap)] W fun e w' => e = .returned (.int .i64 (wrongM m)) ∧ Below W.heap.size W w') := fun W => wrong_any m ad cap W
  have HST : Hid (∀ dv : Value, TW w (w.alloc (.cells #[.int .i64 m.kind, .int .i64 m.worker, .int .i64 m.unit, .int .i64 m.turn, .int .i64 m.err, .int .i64 m.place, dv] 27)) m.kind m.worker m.unit m.turn m.err m.place dv) := fun dv => tw_start w _ _ _ _ _ _ dv
  rw [hw] at HWR
  clear hw
  clear hW HWL
  unfold msV at *
  obtain ⟨k, wk, u, t, x, p, ml⟩ := m
  simp only at *
  generalize ml.length = mn at *
  go_enter Tryd.func5, Tryd.ntmps5
  go_wp2_with (first | (go_at_call 13; refine (HAL.out _ (HST.out _).bel).mono ?_; rintro e w1 ⟨rfl, hb1⟩; have h1 := (HST.out _).next hb1; obtain ⟨c0, c1, c2, c3, c4, c5, c6, hz⟩ := h1.cells; have H1 := Lib.hid h1; clear hb1 h1) | (go_at_call 8; refine (HWR.out _).mono ?_; rintro e w2 ⟨rfl, hb2⟩; have h2 := H1.out.next hb2; obtain ⟨d0, d1, d2, d3, d4, d5, d6, hz2⟩ := h2.cells; have H2 := Lib.hid h2; clear hb2 h2 c0 c1 c2 c3 c4 c5 c6))
  go_ret
  exact ⟨rfl, H2.out.bel⟩

set_option maxHeartbeats 4000000 in
theorem byte_long (m : Ms) (ad : Option Addr) (cap : Nat) (a c : Int) (w : World) (hW : WL w) (hw : wrongM m = 0) (h0 : ¬ a < 0) (ha : ¬ (m.data.length : Int) ≤ a) (hn : (100 : Int) < (m.data.length : Int)) :
    Calls Tryd.prog 5 #[msV m (.slice ad m.data.length cap), .int .i64 a, .int .u8 c] w fun e w' => e = .returned (.bool true) ∧ Below w.heap.size w w' := by
  have HWL : Hid (∀ W, Below w.heap.size w W → WL W) := fun W h => hW.below h (Nat.le_refl _)
  have HAL : Hid (∀ W, Below w.heap.size w W → Calls Tryd.prog 13 #[] W fun e w' => e = .returned (.bool true) ∧ Below W.heap.size W w') := fun W h => walive_any W (HWL.out W h)
  have HWR : Hid (∀ W, Calls Tryd.prog 8 #[msV m (.slice ad m.data.length cap)] W fun e w' => e = .returned (.int .i64 (wrongM m)) ∧ Below W.heap.size W w') := fun W => wrong_any m ad cap W
  have HST : Hid (∀ dv : Value, TW w (w.alloc (.cells #[.int .i64 m.kind, .int .i64 m.worker, .int .i64 m.unit, .int .i64 m.turn, .int .i64 m.err, .int .i64 m.place, dv] 27)) m.kind m.worker m.unit m.turn m.err m.place dv) := fun dv => tw_start w _ _ _ _ _ _ dv
  rw [hw] at HWR
  clear hw
  clear hW HWL
  unfold msV at *
  obtain ⟨k, wk, u, t, x, p, ml⟩ := m
  simp only at *
  generalize ml.length = mn at *
  go_enter Tryd.func5, Tryd.ntmps5
  go_wp2_with (first | (go_at_call 13; refine (HAL.out _ (HST.out _).bel).mono ?_; rintro e w1 ⟨rfl, hb1⟩; have h1 := (HST.out _).next hb1; obtain ⟨c0, c1, c2, c3, c4, c5, c6, hz⟩ := h1.cells; have H1 := Lib.hid h1; clear hb1 h1) | (go_at_call 8; refine (HWR.out _).mono ?_; rintro e w2 ⟨rfl, hb2⟩; have h2 := H1.out.next hb2; obtain ⟨d0, d1, d2, d3, d4, d5, d6, hz2⟩ := h2.cells; have H2 := Lib.hid h2; clear hb2 h2 c0 c1 c2 c3 c4 c5 c6))
  go_ret
  exact ⟨rfl, H2.out.bel⟩

theorem bytesM_at (m : Ms) (k : Nat) (hk : k < m.data.length) (h : 12 + k < (bytesM m).length) : (bytesM m)[12 + k] = m.data[k] := by
  have e : (bytesM m)[12 + k]? = m.data[k]? := by
    have ht := textM_len m
    unfold bytesM
    rw [List.getElem?_append_left (by omega)]
    unfold textM
    rw [List.getElem?_append_right (by rw [headM_len]; omega), headM_len, Nat.add_sub_cancel_left]
  rw [List.getElem?_eq_getElem h, List.getElem?_eq_getElem hk] at e
  injection e

/-- What Bytes answers of a message that is right, cell by cell. -/
theorem mbytes_cells (m : Ms) (dv : Value) (w : World) (hD : OBytes w dv m.data) (hW : WL w) (hw : wrongM m = 0) :
    Calls Tryd.prog 6 #[msV m dv] w fun e w' => ∃ g c, e = .returned (.tuple #[.slice (some ⟨g, 0, none⟩) (14 + m.data.length) c, .int .i64 0]) ∧ Below w.heap.size w w' ∧ g < w'.heap.size ∧ ∀ i (h : i < (bytesM m).length), w'.cell? ⟨g, i, none⟩ = some (.int .u8 ((bytesM m)[i].toNat : Int)) := by
  refine (mbytes_good m dv w hD hW hw).mono ?_
  rintro e w' ⟨v, rfl, hb, ho⟩
  have hl := bytesM_len m
  rcases ho.1.2 with ⟨rfl, h0⟩ | ⟨g, cap, cur, rfl, _, hg, _⟩
  · omega
  · refine ⟨g, cap, by rw [hl], hb, (Array.getElem?_eq_some_iff.1 hg).1, fun i hi => ?_⟩
    have := ho.1.cells (g := g) rfl i (.int .u8 ((bytesM m)[i].toNat : Int)) (by simp [bcells, hi])
    rwa [addr_add, Nat.zero_add] at this

set_option maxHeartbeats 4000000 in
theorem byte_same (m : Ms) (ad : Option Addr) (cap : Nat) (a c : Int) (w : World) (hD : OBytes w (.slice ad m.data.length cap) m.data) (hW : WL w) (hw : wrongM m = 0) (i : Nat) (hi : a = (i : Int)) (hil : i < m.data.length) (hn : m.data.length ≤ 100) (c8 : UInt8) (hc8 : c = (c8.toNat : Int)) (hs : c8 = m.data[i]) :
    Calls Tryd.prog 5 #[msV m (.slice ad m.data.length cap), .int .i64 a, .int .u8 c] w fun e w' => e = .returned (.bool true) ∧ Below w.heap.size w w' := by
  have HWL : Hid (∀ W, Below w.heap.size w W → WL W) := fun W h => hW.below h (Nat.le_refl _)
  have HAL : Hid (∀ W, Below w.heap.size w W → Calls Tryd.prog 13 #[] W fun e w' => e = .returned (.bool true) ∧ Below W.heap.size W w') := fun W h => walive_any W (HWL.out W h)
  have HWR : Hid (∀ W, Calls Tryd.prog 8 #[msV m (.slice ad m.data.length cap)] W fun e w' => e = .returned (.int .i64 (wrongM m)) ∧ Below W.heap.size W w') := fun W => wrong_any m ad cap W
  have HST : Hid (∀ dv : Value, TW w (w.alloc (.cells #[.int .i64 m.kind, .int .i64 m.worker, .int .i64 m.unit, .int .i64 m.turn, .int .i64 m.err, .int .i64 m.place, dv] 27)) m.kind m.worker m.unit m.turn m.err m.place dv) := fun dv => tw_start w _ _ _ _ _ _ dv
  have HBY : Hid (∀ W, Below w.heap.size w W → Calls Tryd.prog 6 #[msV m (.slice ad m.data.length cap)] W fun e w' => ∃ g c, e = .returned (.tuple #[.slice (some ⟨g, 0, none⟩) (14 + m.data.length) c, .int .i64 0]) ∧ Below W.heap.size W w' ∧ g < w'.heap.size ∧ ∀ i (h : i < (bytesM m).length), w'.cell? ⟨g, i, none⟩ = some (.int .u8 ((bytesM m)[i].toNat : Int))) := fun W h => mbytes_cells m _ W (hD.below h (Nat.le_refl _)) (HWL.out W h) hw
  have HCL : Hid ((bytesM m).length = 14 + m.data.length ∧ ∀ h : 12 + i < (bytesM m).length, (bytesM m)[12 + i] = c8) := ⟨bytesM_len m, fun h => by rw [hs]; exact bytesM_at m i hil h⟩
  rw [hw] at HWR
  clear hw hD hs
  have h0 : ¬ a < 0 := by omega
  have h1 : ¬ (m.data.length : Int) ≤ a := by omega
  have h2 : ¬ (100 : Int) < (m.data.length : Int) := by omega
  generalize bytesM m = bs at *
  clear hW HWL
  unfold msV at *
  obtain ⟨k, wk, u, t, x, p, ml⟩ := m
  simp only at *
  generalize ml.length = mn at *
  have ea : (12 + a).toNat = 12 + i := by omega
  go_enter Tryd.func5, Tryd.ntmps5
  go_wp2_with (first | (go_at_call 13; refine (HAL.out _ (HST.out _).bel).mono ?_; rintro e w1 ⟨rfl, hb1⟩; have h1 := (HST.out _).next hb1; obtain ⟨c0, c1, c2, c3, c4, c5, c6, hz⟩ := h1.cells; have H1 := Lib.hid h1; clear hb1 h1) | (go_at_call 8; refine (HWR.out _).mono ?_; rintro e w2 ⟨rfl, hb2⟩; have h2 := H1.out.next hb2; obtain ⟨d0, d1, d2, d3, d4, d5, d6, hz2⟩ := h2.cells; have H2 := Lib.hid h2; clear hb2 h2 c0 c1 c2 c3 c4 c5 c6) | (go_at_call 6; refine (HBY.out _ H2.out.bel).mono ?_; rintro e w3 ⟨g3, r3, rfl, hb3, hg3, hc3⟩; have h3 := H2.out.next hb3; obtain ⟨f0, f1, f2, f3, f4, f5, f6, hz3⟩ := h3.cells; have xc : w3.cell? ⟨g3, 12 + i, none⟩ = some (.int .u8 c) := (by have hlt : 12 + i < bs.length := (by have := HCL.out.1; omega); rw [hc3 (12 + i) hlt, HCL.out.2 hlt, hc8]); have H3 := Lib.hid h3; clear hb3 h3 hc3 d0 d1 d2 d3 d4 d5 d6))
  go_ret
  exact ⟨rfl, H3.out.bel⟩

/-- Bytes that are copied, one of them turned. -/
theorem turn_copy (bs : List UInt8) (n i : Nat) (c : Int) (c8 : UInt8) (hc8 : c = (c8.toNat : Int)) (hl : bs.length = n) (hn : n ≤ 1000) (hi : i < n) (w W : World) (g r : Nat) (hb : Below w.heap.size w W) (hg : g < W.heap.size) (hc : ∀ j (h : j < bs.length), W.cell? ⟨g, j, none⟩ = some (.int .u8 (bs[j].toNat : Int))) :
    ∃ g4 r4 W4 y, (∀ ty, (Builtin.append_ #[25, 25] ty #[.slice (some ⟨W.heap.size, 0, none⟩) 0 0, .slice (some ⟨g, 0, none⟩) n r]).run Tryd.prog (W.alloc (.cells #[] 5)) = .ok (.slice (some ⟨g4, 0, none⟩) n r4) W4) ∧ W4.cell? ⟨g4, i, none⟩ = some (.int .u8 y) ∧ W4.frozen? ⟨g4, i, none⟩ = false ∧
      Below w.heap.size w (W4.setCell ⟨g4, i, none⟩ (.int .u8 c)) ∧ RB (W4.setCell ⟨g4, i, none⟩ (.int .u8 c)) (W4.setCell ⟨g4, i, none⟩ (.int .u8 c)).heap.size (.slice (some ⟨g4, 0, none⟩) n r4) (bs.set i c8) := by
  have ho : Out (W.alloc (.cells #[] 5)) W.heap.size (.slice (some ⟨W.heap.size, 0, none⟩) 0 0) [] := ⟨⟨rfl, .inr ⟨W.heap.size, 0, #[], rfl, Nat.le_refl _, heap_alloc_new W _, Nat.le_refl _, Nat.zero_le _, rfl, rfl⟩⟩, by simp⟩
  obtain ⟨v', W4, h1, h2, h3⟩ := app_bytes ho ⟨g, 0, none⟩ n r bs hl (fun j u hj => by
    have hj1 := (List.getElem?_eq_some_iff.1 hj)
    obtain ⟨hj2, hj3⟩ := hj1
    have hj4 : j < bs.length := by simpa [bcells] using hj2
    rw [addr_add, Nat.zero_add, World.cell?_alloc_lt _ _ _ (by exact hg), hc j hj4, ← hj3]
    simp [bcells]) (by simp only [List.length_nil]; omega)
  rw [List.nil_append] at h2
  have hb4 : Below w.heap.size w W4 := ho.grown (hb.alloc hb.size _) h3 hb.size
  rcases h2.1.2 with ⟨rfl, h0⟩ | ⟨g4, r4, cur, e, hb', hg4, hnc, hcm, hcs, htk⟩
  · omega
  · subst e
    rw [hl] at h1 hnc
    have hcell : ∀ j (h : j < bs.length), W4.cell? ⟨g4, j, none⟩ = some (.int .u8 (bs[j].toNat : Int)) := fun j hj => by
      have := h2.1.cells (g := g4) rfl j (.int .u8 (bs[j].toNat : Int)) (by simp [bcells, hj])
      rwa [addr_add, Nat.zero_add] at this
    have hz := hb.size
    refine ⟨g4, r4, W4, _, h1, hcell i (by omega), blk_froz hg4, hb4.setCell (by show w.heap.size ≤ g4; omega) _, ⟨_, r4, by rw [List.length_set, hl], .inr ⟨_, rfl, by rw [List.length_set, hl]; exact hnc, fun _ => ⟨g4, 0, rfl, by simpa using (Array.getElem?_eq_some_iff.1 hg4).1, fun j hj => ?_⟩⟩⟩⟩
    have hj' : j < bs.length := by simpa using hj
    rw [Nat.zero_add]
    by_cases hji : j = i
    · subst hji
      rw [World.cell?_setCell_same _ _ _ (hcell j hj'), hc8]
      simp
    · rw [World.cell?_setCell_other _ _ _ _ (by intro e; cases e; exact hji rfl), hcell j hj', List.getElem_set_ne (by omega)]

set_option maxHeartbeats 4000000 in
theorem byte_other (m : Ms) (ad : Option Addr) (cap : Nat) (a c : Int) (w : World) (hD : OBytes w (.slice ad m.data.length cap) m.data) (hW : WL w) (hw : wrongM m = 0) (i : Nat) (hi : a = (i : Int)) (hil : i < m.data.length) (hn : m.data.length ≤ 100) (c8 : UInt8) (hc8 : c = (c8.toNat : Int)) (hs : c8 ≠ m.data[i]) :
    Calls Tryd.prog 5 #[msV m (.slice ad m.data.length cap), .int .i64 a, .int .u8 c] w fun e w' => e = .returned (.bool true) ∧ Below w.heap.size w w' := by
  have HWL : Hid (∀ W, Below w.heap.size w W → WL W) := fun W h => hW.below h (Nat.le_refl _)
  have HAL : Hid (∀ W, Below w.heap.size w W → Calls Tryd.prog 13 #[] W fun e w' => e = .returned (.bool true) ∧ Below W.heap.size W w') := fun W h => walive_any W (HWL.out W h)
  have HWR : Hid (∀ W, Calls Tryd.prog 8 #[msV m (.slice ad m.data.length cap)] W fun e w' => e = .returned (.int .i64 (wrongM m)) ∧ Below W.heap.size W w') := fun W => wrong_any m ad cap W
  have HST : Hid (∀ dv : Value, TW w (w.alloc (.cells #[.int .i64 m.kind, .int .i64 m.worker, .int .i64 m.unit, .int .i64 m.turn, .int .i64 m.err, .int .i64 m.place, dv] 27)) m.kind m.worker m.unit m.turn m.err m.place dv) := fun dv => tw_start w _ _ _ _ _ _ dv
  have HBY : Hid (∀ W, Below w.heap.size w W → Calls Tryd.prog 6 #[msV m (.slice ad m.data.length cap)] W fun e w' => ∃ g c, e = .returned (.tuple #[.slice (some ⟨g, 0, none⟩) (14 + m.data.length) c, .int .i64 0]) ∧ Below W.heap.size W w' ∧ g < w'.heap.size ∧ ∀ i (h : i < (bytesM m).length), w'.cell? ⟨g, i, none⟩ = some (.int .u8 ((bytesM m)[i].toNat : Int))) := fun W h => mbytes_cells m _ W (hD.below h (Nat.le_refl _)) (HWL.out W h) hw
  have HCL : Hid ((bytesM m).length = 14 + m.data.length ∧ ∀ h : 12 + i < (bytesM m).length, (bytesM m)[12 + i] = m.data[i]) := ⟨bytesM_len m, fun h => bytesM_at m i hil h⟩
  have hne : (((m.data[i]).toNat : Int) == c) = false := by
    rw [hc8]
    simp only [beq_eq_false_iff_ne, ne_eq]
    intro h
    exact hs (UInt8.toNat_inj.1 (by omega)).symm
  have HTC : Hid (∀ W g r, Below w.heap.size w W → g < W.heap.size → (∀ j (h : j < (bytesM m).length), W.cell? ⟨g, j, none⟩ = some (.int .u8 ((bytesM m)[j].toNat : Int))) → _) := fun W g r => turn_copy (bytesM m) (14 + m.data.length) (12 + i) c c8 hc8 (bytesM_len m) (by omega) (by omega) w W g r
  have HPA : Hid (∀ W v, Below w.heap.size w W → RB W W.heap.size v ((bytesM m).set (12 + i) c8) → Calls Tryd.prog 10 #[v] W fun e w' => e = .returned (.tuple #[.agg #[.int .i64 0, .int .i64 0, .int .i64 0, .int .i64 0, .int .i64 0, .int .i64 0, .slice none 0 0], .int .i64 2]) ∧ Below W.heap.size W w') := fun W v h hr => by
    refine (mparse_any _ v W hr (by rw [List.length_set, bytesM_len]; omega) (HWL.out W h)).mono ?_
    rintro e w' ⟨hb, he⟩
    rw [parse_other m i hil c8 hs] at he
    exact ⟨he, hb⟩
  rw [hw] at HWR
  clear hw hD hs hc8
  have h0 : ¬ a < 0 := by omega
  have h1 : ¬ (m.data.length : Int) ≤ a := by omega
  have h2 : ¬ (100 : Int) < (m.data.length : Int) := by omega
  generalize m.data[i] = y8 at *
  generalize bytesM m = bs at *
  clear hW HWL
  unfold msV at *
  obtain ⟨k, wk, u, t, x, p, ml⟩ := m
  simp only at *
  generalize ml.length = mn at *
  have ea : (12 + a).toNat = 12 + i := by omega
  go_enter Tryd.func5, Tryd.ntmps5
  go_wp2_with (first | (go_at_call 13; refine (HAL.out _ (HST.out _).bel).mono ?_; rintro e w1 ⟨rfl, hb1⟩; have h1 := (HST.out _).next hb1; obtain ⟨c0, c1, c2, c3, c4, c5, c6, hz⟩ := h1.cells; have H1 := Lib.hid h1; clear hb1 h1) | (go_at_call 8; refine (HWR.out _).mono ?_; rintro e w2 ⟨rfl, hb2⟩; have h2 := H1.out.next hb2; obtain ⟨d0, d1, d2, d3, d4, d5, d6, hz2⟩ := h2.cells; have H2 := Lib.hid h2; clear hb2 h2 c0 c1 c2 c3 c4 c5 c6) | (go_at_call 6; refine (HBY.out _ H2.out.bel).mono ?_; rintro e w3 ⟨g3, r3, rfl, hb3, hg3, hc3⟩; have h3 := H2.out.next hb3; obtain ⟨f0, f1, f2, f3, f4, f5, f6, hz3⟩ := h3.cells; have xc : w3.cell? ⟨g3, 12 + i, none⟩ = some (.int .u8 (y8.toNat : Int)) := (by have hlt : 12 + i < bs.length := (by have := HCL.out.1; omega); rw [hc3 (12 + i) hlt, HCL.out.2 hlt]); obtain ⟨g4, r4, w4, z4, happ, x4, xf4, hb4, hr4⟩ := HTC.out w3 g3 r3 h3.bel hg3 hc3; have HAP := Lib.hid happ; have HB4 := Lib.hid hb4; have HR4 := Lib.hid hr4; clear hb3 h3 hc3 d0 d1 d2 d3 d4 d5 d6 happ hb4 hr4) | (at_builtin; refine wpList_app_eq rfl _ _ _ _ rfl _ _ rfl rfl HAP.out ?_) | (go_at_call 10; refine (HPA.out _ _ HB4.out HR4.out).mono ?_; rintro e w6 ⟨rfl, hb6⟩; have HB6 : Hid (∀ o, Below w.heap.size w (w6.alloc o)) := fun o => bnext (bnext HB4.out hb6) (oalloc _ _); clear hb6))
  go_ret
  exact ⟨rfl, HB6.out _⟩

theorem wbyte_any (m : Ms) (ad : Option Addr) (cap : Nat) (a c : Int) (hc : 0 ≤ c ∧ c ≤ 255) (w : World) (hM : RB w w.heap.size (.slice ad m.data.length cap) m.data) (hMl : m.data.length ≤ 140737488351232) (hW : WL w) :
    Calls Tryd.prog 5 #[msV m (.slice ad m.data.length cap), .int .i64 a, .int .u8 c] w fun e w' => e = .returned (.bool true) ∧ Below w.heap.size w w' := by
  have hD := hM.bytes (Nat.le_refl _) (by unfold maxLen; omega)
  by_cases hw : wrongM m = 0
  · by_cases h0 : a < 0
    · exact byte_neg m ad cap a c w hW hw h0
    · by_cases h1 : (m.data.length : Int) ≤ a
      · exact byte_far m ad cap a c w hW hw h0 h1
      · by_cases h2 : (100 : Int) < (m.data.length : Int)
        · exact byte_long m ad cap a c w hW hw h0 h1 h2
        · have hi : a = ((a.toNat : Nat) : Int) := by omega
          have hil : a.toNat < m.data.length := by omega
          have hc8 : c = ((UInt8.ofNat c.toNat).toNat : Int) := by rw [UInt8.toNat_ofNat']; omega
          by_cases hs : UInt8.ofNat c.toNat = m.data[a.toNat]
          · exact byte_same m ad cap a c w hD hW hw a.toNat hi hil (by omega) _ hc8 hs
          · exact byte_other m ad cap a c w hD hW hw a.toNat hi hil (by omega) _ hc8 hs
  · exact byte_w m ad cap a c w hW hw

end Go.Proofs.YtmbjahjkgjkbhaaDoor
