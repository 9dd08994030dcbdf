/- The contract of the law: there, and back. -/
import Derived.Test.YtmbjahjkgjkbhaaDoorWrJ
namespace Go.Proofs.YtmbjahjkgjkbhaaDoor
open Go.RowKit

/-- The box of the message that came in. -/
structure TW (w W : World) (k wk u t x p : Int) (dv : Value) : Prop where
  bel : Below w.heap.size w W
  box : W.heap[w.heap.size]? = some (.cells #[.int .i64 k, .int .i64 wk, .int .i64 u, .int .i64 t, .int .i64 x, .int .i64 p, dv] 27 (0, 0))
theorem TW.next {w W W' : World} {k wk u t x p : Int} {dv : Value} (h : TW w W k wk u t x p dv) (hb : Below W.heap.size W W') : TW w W' k wk u t x p dv :=
  ⟨bnext h.bel hb, (hb.block _ (Array.getElem?_eq_some_iff.1 h.box).1).trans h.box⟩
theorem tw_start (w : World) (k wk u t x p : Int) (dv : Value) : TW w (w.alloc (.cells #[.int .i64 k, .int .i64 wk, .int .i64 u, .int .i64 t, .int .i64 x, .int .i64 p, dv] 27)) k wk u t x p dv := ⟨oalloc _ _, heap_alloc_new _ _⟩
theorem TW.cells {w W : World} {k wk u t x p : Int} {dv : Value} (h : TW w W k wk u t x p dv) : W.cell? ⟨w.heap.size, 0, none⟩ = some (.int .i64 k) ∧ W.cell? ⟨w.heap.size, 1, none⟩ = some (.int .i64 wk) ∧ W.cell? ⟨w.heap.size, 2, none⟩ = some (.int .i64 u) ∧ W.cell? ⟨w.heap.size, 3, none⟩ = some (.int .i64 t) ∧ W.cell? ⟨w.heap.size, 4, none⟩ = some (.int .i64 x) ∧ W.cell? ⟨w.heap.size, 5, none⟩ = some (.int .i64 p) ∧ W.cell? ⟨w.heap.size, 6, none⟩ = some dv ∧ w.heap.size < W.heap.size :=
  ⟨cell_of_block h.box rfl, cell_of_block h.box rfl, cell_of_block h.box rfl, cell_of_block h.box rfl, cell_of_block h.box rfl, cell_of_block h.box rfl, cell_of_block h.box rfl, (Array.getElem?_eq_some_iff.1 h.box).1⟩

theorem parse_err {l : List UInt8} {x : Int} (h : parseM l = .error x) : x ≠ 0 := by
  unfold parseM at h
  split at h
  · split at h
    · cases h
    · injection h with h; subst h; assumption
  · injection h with h; subst h; decide

/-- Bytes that are read, with their room. -/
theorem RB.next {w W : World} {v : Value} {l : List UInt8} (h : RB w w.heap.size v l) (hb : Below w.heap.size w W) : RB W W.heap.size v l := by
  obtain ⟨ad, cap, e, h1⟩ := h.keep (w' := W) (fun b hl => hb.block b hl)
  refine ⟨ad, cap, e, ?_⟩
  clear h e
  rcases h1 with h | ⟨a, rfl, hc, h⟩
  · exact .inl h
  · refine .inr ⟨a, rfl, hc, fun h0 => ?_⟩
    obtain ⟨b, o, rfl, hb', hcs⟩ := h h0
    exact ⟨b, o, rfl, Nat.lt_of_lt_of_le hb' hb.size, hcs⟩

set_option maxHeartbeats 8000000 in
theorem turns_gg (m : Ms) (ad : Option Addr) (cap : Nat) (l : List UInt8) (bad : Option Addr) (bcap : Nat) (w : World) (hD : OBytes w (.slice ad m.data.length cap) m.data) (hv : RB w w.heap.size (.slice bad l.length bcap) l) (hl : l.length ≤ 140737488355328) (hW : WL w) (hw : wrongM m = 0) (q : Ms) (hp : parseM l = .ok q) :
    Calls Tryd.prog 4 #[msV m (.slice ad m.data.length cap), .slice bad l.length bcap] w fun e w' => e = .returned (.bool true) ∧ Below w.heap.size w w' := by
  have HWL : Hid (∀ W, Below w.heap.size w W → WL W) := fun W h => hW.below h (Nat.le_refl _)
  have HDA : Hid (∀ W, Below w.heap.size w W → OBytes W (.slice ad m.data.length cap) m.data) := fun W h => hD.below h (Nat.le_refl _)
  have HBV : Hid (∀ W, Below w.heap.size w W → RB W W.heap.size (.slice bad l.length bcap) l) := fun W h => hv.next h
  have HAL : Hid (∀ W, Below w.heap.size w W → Calls Tryd.prog 13 #[] W fun e w' => e = .returned (.bool true) ∧ Below W.heap.size W w') := fun W h => walive_any W (HWL.out W h)
  have HWR : Hid (∀ W, Calls Tryd.prog 8 #[msV m (.slice ad m.data.length cap)] W fun e w' => e = .returned (.int .i64 (wrongM m)) ∧ Below W.heap.size W w') := fun W => wrong_any m ad cap W
  have HBY : Hid (∀ W, Below w.heap.size w W → Calls Tryd.prog 6 #[msV m (.slice ad m.data.length cap)] W fun e w' => ∃ a1 c1, e = .returned (.tuple #[.slice a1 (bytesM m).length c1, .int .i64 0]) ∧ Below W.heap.size W w' ∧ RB w' w'.heap.size (.slice a1 (bytesM m).length c1) (bytesM m)) := fun W h => by
    refine (mbytes_good m _ W (HDA.out W h) (HWL.out W h) hw).mono ?_
    rintro e w' ⟨v, rfl, hb, ho⟩
    obtain ⟨a1, c1, e2, h2⟩ := ho.rb
    subst e2
    exact ⟨a1, c1, rfl, hb, ⟨a1, c1, rfl, h2⟩⟩
  have HP1 : Hid (∀ W a1 c1, Below w.heap.size w W → RB W W.heap.size (.slice a1 (bytesM m).length c1) (bytesM m) → Calls Tryd.prog 10 #[.slice a1 (bytesM m).length c1] W fun e w' => ∃ a2 n2 c2, e = .returned (.tuple #[msV m (.slice a2 n2 c2), .int .i64 0]) ∧ Below W.heap.size W w' ∧ OBytes w' (.slice a2 n2 c2) m.data) := fun W a1 c1 h hr => by
    have hn := (right_of hw).2.2.2
    refine (mparse_any (bytesM m) _ W hr (by rw [bytesM_len]; omega) (HWL.out W h)).mono ?_
    rintro e w' ⟨hb, he⟩
    rw [parse_bytesM m hw] at he
    obtain ⟨dv, rfl, ho⟩ := he
    have hby := ho.bytes (by unfold maxLen; omega)
    obtain ⟨a2, c2, rfl, _⟩ := id hby
    exact ⟨a2, _, c2, rfl, hb, hby⟩
  have HSA : Hid (∀ W a2 n2 c2, Below w.heap.size w W → OBytes W (.slice a2 n2 c2) m.data → Calls Tryd.prog 12 #[msV m (.slice ad m.data.length cap), msV m (.slice a2 n2 c2)] W fun e w' => e = .returned (.bool true) ∧ Below W.heap.size W w') := fun W a2 n2 c2 h hd => msame_any m _ _ W (HDA.out W h) hd
  have hq := bytes_parseM hp
  have HP2 : Hid (∀ W, Below w.heap.size w W → Calls Tryd.prog 10 #[.slice bad l.length bcap] W fun e w' => ∃ a5 n5 c5, e = .returned (.tuple #[msV q (.slice a5 n5 c5), .int .i64 0]) ∧ Below W.heap.size W w' ∧ OBytes w' (.slice a5 n5 c5) q.data) := fun W h => by
    refine (mparse_any l _ W (HBV.out W h) hl (HWL.out W h)).mono ?_
    rintro e w' ⟨hb, he⟩
    rw [hp] at he
    obtain ⟨dv, rfl, ho⟩ := he
    have hn := (right_of hq.1).2.2.2
    have hby := ho.bytes (by unfold maxLen; omega)
    obtain ⟨a2, c2, rfl, _⟩ := id hby
    exact ⟨a2, _, c2, rfl, hb, hby⟩
  have HB2 : Hid (∀ W a5 n5 c5, Below w.heap.size w W → OBytes W (.slice a5 n5 c5) q.data → Calls Tryd.prog 6 #[msV q (.slice a5 n5 c5)] W fun e w' => ∃ v, e = .returned (.tuple #[v, .int .i64 0]) ∧ Below W.heap.size W w' ∧ (convert 25 9 v).run Tryd.prog w' = .ok (.string ⟨l.toArray⟩) w' ∧ (convert 25 9 (.slice bad l.length bcap)).run Tryd.prog w' = .ok (.string ⟨l.toArray⟩) w') := fun W a5 n5 c5 h hd => by
    refine (mbytes_good q _ W hd (HWL.out W h) hq.1).mono ?_
    rintro e w' ⟨v, rfl, hb, ho⟩
    have hby := ho.bytes (by rw [hq.2]; unfold maxLen; omega)
    rw [hq.2] at hby
    exact ⟨v, rfl, hb, oconv hby, oconv ((HBV.out w' (bnext h hb)).bytes (Nat.le_refl _) (by unfold maxLen; omega))⟩
  have HST : Hid (∀ dv : Value, TW w (w.alloc (.cells #[.int .i64 m.kind, .int .i64 m.worker, .int .i64 m.unit, .int .i64 m.turn, .int .i64 m.err, .int .i64 m.place, dv] 27)) m.kind m.worker m.unit m.turn m.err m.place dv) := fun dv => tw_start w _ _ _ _ _ _ dv
  rw [hw] at HWR
  clear hD hv hW hw HWL HDA HBV hp hq
  generalize bytesM m = bs at *
  unfold msV at *
  obtain ⟨k, wk, u, t, x, p, ml⟩ := m
  simp only at *
  generalize ml.length = mn at *
  go_enter Tryd.func4, Tryd.ntmps4
  go_wp2_with (first | (go_at_call 13; refine (HAL.out _ (HST.out _).bel).mono ?_; rintro e w1 ⟨rfl, hb1⟩; have h1 := (HST.out _).next hb1; obtain ⟨c0, c1, c2, c3, c4, c5, c6, hz⟩ := h1.cells; have H1 := Lib.hid h1; clear hb1 h1) | (go_at_call 8; refine (HWR.out _).mono ?_; rintro e w2 ⟨rfl, hb2⟩; have h2 := H1.out.next hb2; obtain ⟨d0, d1, d2, d3, d4, d5, d6, hz2⟩ := h2.cells; have H2 := Lib.hid h2; clear hb2 h2 c0 c1 c2 c3 c4 c5 c6) | (go_at_call 6; refine (HBY.out _ H2.out.bel).mono ?_; rintro e w3 ⟨a1, c1, rfl, hb3, hr3⟩; have H3 := Lib.hid (H2.out.next hb3); have HR3 := Lib.hid hr3; clear hb3 hr3 HBY d0 d1 d2 d3 d4 d5 d6) | (go_at_call 10; refine (HP1.out _ _ _ H3.out.bel HR3.out).mono ?_; rintro e w4 ⟨a2, n2, c2, rfl, hb4, hd4⟩; have h4 := H3.out.next hb4; obtain ⟨f0, f1, f2, f3, f4, f5, f6, hz4⟩ := h4.cells; have H4 : Hid (∀ o, TW w (w4.alloc o) k wk u t x p (.slice ad mn cap)) := fun o => h4.next (oalloc _ _); have HD4 : Hid (∀ o, OBytes (w4.alloc o) (.slice a2 n2 c2) ml) := fun o => hd4.below (oalloc _ _) (Nat.le_refl _); clear hb4 h4 hd4 HP1 HR3) | (go_at_call 12; refine (HSA.out _ _ _ _ (H4.out _).bel (HD4.out _)).mono ?_; rintro e w5 ⟨rfl, hb5⟩; have H5 := Lib.hid ((H4.out _).next hb5); clear hb5 HD4 HSA) | (go_at_call 10; refine (HP2.out _ H5.out.bel).mono ?_; rintro e w6 ⟨a5, n5, c5, rfl, hb6, hd6⟩; have h6 := H5.out.next hb6; have H6 : Hid (∀ o, TW w (w6.alloc o) k wk u t x p (.slice ad mn cap)) := fun o => h6.next (oalloc _ _); have HD6 : Hid (∀ o, OBytes (w6.alloc o) (.slice a5 n5 c5) q.data) := fun o => hd6.below (oalloc _ _) (Nat.le_refl _); clear hb6 h6 hd6) | (go_at_call 6; refine (HB2.out _ _ _ _ (H6.out _).bel (HD6.out _)).mono ?_; rintro e w7 ⟨v7, rfl, hb7, hc7, hc8⟩; have H7 := Lib.hid ((H6.out _).next hb7); clear hb7 HD6))
  go_ret
  exact ⟨rfl, H7.out.bel⟩

set_option maxHeartbeats 8000000 in
theorem turns_ge (m : Ms) (ad : Option Addr) (cap : Nat) (l : List UInt8) (bad : Option Addr) (bcap : Nat) (w : World) (hD : OBytes w (.slice ad m.data.length cap) m.data) (hv : RB w w.heap.size (.slice bad l.length bcap) l) (hl : l.length ≤ 140737488355328) (hW : WL w) (hw : wrongM m = 0) (q : Int) (hp : parseM l = .error q) :
    Calls Tryd.prog 4 #[msV m (.slice ad m.data.length cap), .slice bad l.length bcap] w fun e w' => e = .returned (.bool true) ∧ Below w.heap.size w w' := by
  have HWL : Hid (∀ W, Below w.heap.size w W → WL W) := fun W h => hW.below h (Nat.le_refl _)
  have HDA : Hid (∀ W, Below w.heap.size w W → OBytes W (.slice ad m.data.length cap) m.data) := fun W h => hD.below h (Nat.le_refl _)
  have HBV : Hid (∀ W, Below w.heap.size w W → RB W W.heap.size (.slice bad l.length bcap) l) := fun W h => hv.next h
  have HAL : Hid (∀ W, Below w.heap.size w W → Calls Tryd.prog 13 #[] W fun e w' => e = .returned (.bool true) ∧ Below W.heap.size W w') := fun W h => walive_any W (HWL.out W h)
  have HWR : Hid (∀ W, Calls Tryd.prog 8 #[msV m (.slice ad m.data.length cap)] W fun e w' => e = .returned (.int .i64 (wrongM m)) ∧ Below W.heap.size W w') := fun W => wrong_any m ad cap W
  have HBY : Hid (∀ W, Below w.heap.size w W → Calls Tryd.prog 6 #[msV m (.slice ad m.data.length cap)] W fun e w' => ∃ a1 c1, e = .returned (.tuple #[.slice a1 (bytesM m).length c1, .int .i64 0]) ∧ Below W.heap.size W w' ∧ RB w' w'.heap.size (.slice a1 (bytesM m).length c1) (bytesM m)) := fun W h => by
    refine (mbytes_good m _ W (HDA.out W h) (HWL.out W h) hw).mono ?_
    rintro e w' ⟨v, rfl, hb, ho⟩
    obtain ⟨a1, c1, e2, h2⟩ := ho.rb
    subst e2
    exact ⟨a1, c1, rfl, hb, ⟨a1, c1, rfl, h2⟩⟩
  have HP1 : Hid (∀ W a1 c1, Below w.heap.size w W → RB W W.heap.size (.slice a1 (bytesM m).length c1) (bytesM m) → Calls Tryd.prog 10 #[.slice a1 (bytesM m).length c1] W fun e w' => ∃ a2 n2 c2, e = .returned (.tuple #[msV m (.slice a2 n2 c2), .int .i64 0]) ∧ Below W.heap.size W w' ∧ OBytes w' (.slice a2 n2 c2) m.data) := fun W a1 c1 h hr => by
    have hn := (right_of hw).2.2.2
    refine (mparse_any (bytesM m) _ W hr (by rw [bytesM_len]; omega) (HWL.out W h)).mono ?_
    rintro e w' ⟨hb, he⟩
    rw [parse_bytesM m hw] at he
    obtain ⟨dv, rfl, ho⟩ := he
    have hby := ho.bytes (by unfold maxLen; omega)
    obtain ⟨a2, c2, rfl, _⟩ := id hby
    exact ⟨a2, _, c2, rfl, hb, hby⟩
  have HSA : Hid (∀ W a2 n2 c2, Below w.heap.size w W → OBytes W (.slice a2 n2 c2) m.data → Calls Tryd.prog 12 #[msV m (.slice ad m.data.length cap), msV m (.slice a2 n2 c2)] W fun e w' => e = .returned (.bool true) ∧ Below W.heap.size W w') := fun W a2 n2 c2 h hd => msame_any m _ _ W (HDA.out W h) hd
  have HP2 : Hid (∀ W, Below w.heap.size w W → Calls Tryd.prog 10 #[.slice bad l.length bcap] W fun e w' => e = .returned (.tuple #[.agg #[.int .i64 0, .int .i64 0, .int .i64 0, .int .i64 0, .int .i64 0, .int .i64 0, .slice none 0 0], .int .i64 q]) ∧ Below W.heap.size W w') := fun W h => by
    refine (mparse_any l _ W (HBV.out W h) hl (HWL.out W h)).mono ?_
    rintro e w' ⟨hb, he⟩
    rw [hp] at he
    exact ⟨he, hb⟩
  have hq0 : (q != 0) = true := bne_iff_ne.2 (parse_err hp)
  have HST : Hid (∀ dv : Value, TW w (w.alloc (.cells #[.int .i64 m.kind, .int .i64 m.worker, .int .i64 m.unit, .int .i64 m.turn, .int .i64 m.err, .int .i64 m.place, dv] 27)) m.kind m.worker m.unit m.turn m.err m.place dv) := fun dv => tw_start w _ _ _ _ _ _ dv
  rw [hw] at HWR
  clear hD hv hW hw HWL HDA HBV hp
  generalize bytesM m = bs at *
  unfold msV at *
  obtain ⟨k, wk, u, t, x, p, ml⟩ := m
  simp only at *
  generalize ml.length = mn at *
  go_enter Tryd.func4, Tryd.ntmps4
  go_wp2_with (first | (go_at_call 13; refine (HAL.out _ (HST.out _).bel).mono ?_; rintro e w1 ⟨rfl, hb1⟩; have h1 := (HST.out _).next hb1; obtain ⟨c0, c1, c2, c3, c4, c5, c6, hz⟩ := h1.cells; have H1 := Lib.hid h1; clear hb1 h1) | (go_at_call 8; refine (HWR.out _).mono ?_; rintro e w2 ⟨rfl, hb2⟩; have h2 := H1.out.next hb2; obtain ⟨d0, d1, d2, d3, d4, d5, d6, hz2⟩ := h2.cells; have H2 := Lib.hid h2; clear hb2 h2 c0 c1 c2 c3 c4 c5 c6) | (go_at_call 6; refine (HBY.out _ H2.out.bel).mono ?_; rintro e w3 ⟨a1, c1, rfl, hb3, hr3⟩; have H3 := Lib.hid (H2.out.next hb3); have HR3 := Lib.hid hr3; clear hb3 hr3 HBY d0 d1 d2 d3 d4 d5 d6) | (go_at_call 10; refine (HP1.out _ _ _ H3.out.bel HR3.out).mono ?_; rintro e w4 ⟨a2, n2, c2, rfl, hb4, hd4⟩; have h4 := H3.out.next hb4; obtain ⟨f0, f1, f2, f3, f4, f5, f6, hz4⟩ := h4.cells; have H4 : Hid (∀ o, TW w (w4.alloc o) k wk u t x p (.slice ad mn cap)) := fun o => h4.next (oalloc _ _); have HD4 : Hid (∀ o, OBytes (w4.alloc o) (.slice a2 n2 c2) ml) := fun o => hd4.below (oalloc _ _) (Nat.le_refl _); clear hb4 h4 hd4 HP1 HR3) | (go_at_call 12; refine (HSA.out _ _ _ _ (H4.out _).bel (HD4.out _)).mono ?_; rintro e w5 ⟨rfl, hb5⟩; have H5 := Lib.hid ((H4.out _).next hb5); clear hb5 HD4 HSA) | (go_at_call 10; refine (HP2.out _ H5.out.bel).mono ?_; rintro e w6 ⟨rfl, hb6⟩; have h6 := H5.out.next hb6; have H6 : Hid (∀ o, TW w (w6.alloc o) k wk u t x p (.slice ad mn cap)) := fun o => h6.next (oalloc _ _); clear hb6 h6))
  go_ret
  exact ⟨rfl, (H6.out _).bel⟩

set_option maxHeartbeats 8000000 in
theorem turns_bg (m : Ms) (ad : Option Addr) (cap : Nat) (l : List UInt8) (bad : Option Addr) (bcap : Nat) (w : World) (hD : OBytes w (.slice ad m.data.length cap) m.data) (hv : RB w w.heap.size (.slice bad l.length bcap) l) (hl : l.length ≤ 140737488355328) (hW : WL w) (hw : wrongM m ≠ 0) (q : Ms) (hp : parseM l = .ok q) :
    Calls Tryd.prog 4 #[msV m (.slice ad m.data.length cap), .slice bad l.length bcap] w fun e w' => e = .returned (.bool true) ∧ Below w.heap.size w w' := by
  have HWL : Hid (∀ W, Below w.heap.size w W → WL W) := fun W h => hW.below h (Nat.le_refl _)
  have HDA : Hid (∀ W, Below w.heap.size w W → OBytes W (.slice ad m.data.length cap) m.data) := fun W h => hD.below h (Nat.le_refl _)
  have HBV : Hid (∀ W, Below w.heap.size w W → RB W W.heap.size (.slice bad l.length bcap) l) := fun W h => hv.next h
  have HAL : Hid (∀ W, Below w.heap.size w W → Calls Tryd.prog 13 #[] W fun e w' => e = .returned (.bool true) ∧ Below W.heap.size W w') := fun W h => walive_any W (HWL.out W h)
  have HWR : Hid (∀ W, Calls Tryd.prog 8 #[msV m (.slice ad m.data.length cap)] W fun e w' => e = .returned (.int .i64 (wrongM m)) ∧ Below W.heap.size W w') := fun W => wrong_any m ad cap W
  have hq := bytes_parseM hp
  have HP2 : Hid (∀ W, Below w.heap.size w W → Calls Tryd.prog 10 #[.slice bad l.length bcap] W fun e w' => ∃ a5 n5 c5, e = .returned (.tuple #[msV q (.slice a5 n5 c5), .int .i64 0]) ∧ Below W.heap.size W w' ∧ OBytes w' (.slice a5 n5 c5) q.data) := fun W h => by
    refine (mparse_any l _ W (HBV.out W h) hl (HWL.out W h)).mono ?_
    rintro e w' ⟨hb, he⟩
    rw [hp] at he
    obtain ⟨dv, rfl, ho⟩ := he
    have hn := (right_of hq.1).2.2.2
    have hby := ho.bytes (by unfold maxLen; omega)
    obtain ⟨a2, c2, rfl, _⟩ := id hby
    exact ⟨a2, _, c2, rfl, hb, hby⟩
  have HB2 : Hid (∀ W a5 n5 c5, Below w.heap.size w W → OBytes W (.slice a5 n5 c5) q.data → Calls Tryd.prog 6 #[msV q (.slice a5 n5 c5)] W fun e w' => ∃ v, e = .returned (.tuple #[v, .int .i64 0]) ∧ Below W.heap.size W w' ∧ (convert 25 9 v).run Tryd.prog w' = .ok (.string ⟨l.toArray⟩) w' ∧ (convert 25 9 (.slice bad l.length bcap)).run Tryd.prog w' = .ok (.string ⟨l.toArray⟩) w') := fun W a5 n5 c5 h hd => by
    refine (mbytes_good q _ W hd (HWL.out W h) hq.1).mono ?_
    rintro e w' ⟨v, rfl, hb, ho⟩
    have hby := ho.bytes (by rw [hq.2]; unfold maxLen; omega)
    rw [hq.2] at hby
    exact ⟨v, rfl, hb, oconv hby, oconv ((HBV.out w' (bnext h hb)).bytes (Nat.le_refl _) (by unfold maxLen; omega))⟩
  have HST : Hid (∀ dv : Value, TW w (w.alloc (.cells #[.int .i64 m.kind, .int .i64 m.worker, .int .i64 m.unit, .int .i64 m.turn, .int .i64 m.err, .int .i64 m.place, dv] 27)) m.kind m.worker m.unit m.turn m.err m.place dv) := fun dv => tw_start w _ _ _ _ _ _ dv
  have hw0 : (wrongM m == 0) = false := by simpa using hw
  generalize wrongM m = y at *
  clear hD hv hW hw HWL HDA HBV hp hq
  unfold msV at *
  obtain ⟨k, wk, u, t, x, p, ml⟩ := m
  simp only at *
  generalize ml.length = mn at *
  go_enter Tryd.func4, Tryd.ntmps4
  go_wp2_with (first | (go_at_call 13; refine (HAL.out _ (HST.out _).bel).mono ?_; rintro e w1 ⟨rfl, hb1⟩; have h1 := (HST.out _).next hb1; obtain ⟨c0, c1, c2, c3, c4, c5, c6, hz⟩ := h1.cells; have H1 := Lib.hid h1; clear hb1 h1) | (go_at_call 8; refine (HWR.out _).mono ?_; rintro e w2 ⟨rfl, hb2⟩; have h2 := H1.out.next hb2; obtain ⟨d0, d1, d2, d3, d4, d5, d6, hz2⟩ := h2.cells; have H2 := Lib.hid h2; clear hb2 h2 c0 c1 c2 c3 c4 c5 c6) | (go_at_call 10; refine (HP2.out _ H2.out.bel).mono ?_; rintro e w6 ⟨a5, n5, c5, rfl, hb6, hd6⟩; have h6 := H2.out.next hb6; have H6 : Hid (∀ o, TW w (w6.alloc o) k wk u t x p (.slice ad mn cap)) := fun o => h6.next (oalloc _ _); have HD6 : Hid (∀ o, OBytes (w6.alloc o) (.slice a5 n5 c5) q.data) := fun o => hd6.below (oalloc _ _) (Nat.le_refl _); clear hb6 h6 hd6) | (go_at_call 6; refine (HB2.out _ _ _ _ (H6.out _).bel (HD6.out _)).mono ?_; rintro e w7 ⟨v7, rfl, hb7, hc7, hc8⟩; have H7 := Lib.hid ((H6.out _).next hb7); clear hb7 HD6))
  go_ret
  exact ⟨rfl, H7.out.bel⟩

set_option maxHeartbeats 8000000 in
theorem turns_be (m : Ms) (ad : Option Addr) (cap : Nat) (l : List UInt8) (bad : Option Addr) (bcap : Nat) (w : World) (hD : OBytes w (.slice ad m.data.length cap) m.data) (hv : RB w w.heap.size (.slice bad l.length bcap) l) (hl : l.length ≤ 140737488355328) (hW : WL w) (hw : wrongM m ≠ 0) (q : Int) (hp : parseM l = .error q) :
    Calls Tryd.prog 4 #[msV m (.slice ad m.data.length cap), .slice bad l.length bcap] w fun e w' => e = .returned (.bool true) ∧ Below w.heap.size w w' := by
  have HWL : Hid (∀ W, Below w.heap.size w W → WL W) := fun W h => hW.below h (Nat.le_refl _)
  have HDA : Hid (∀ W, Below w.heap.size w W → OBytes W (.slice ad m.data.length cap) m.data) := fun W h => hD.below h (Nat.le_refl _)
  have HBV : Hid (∀ W, Below w.heap.size w W → RB W W.heap.size (.slice bad l.length bcap) l) := fun W h => hv.next h
  have HAL : Hid (∀ W, Below w.heap.size w W → Calls Tryd.prog 13 #[] W fun e w' => e = .returned (.bool true) ∧ Below W.heap.size W w') := fun W h => walive_any W (HWL.out W h)
  have HWR : Hid (∀ W, Calls Tryd.prog 8 #[msV m (.slice ad m.data.length cap)] W fun e w' => e = .returned (.int .i64 (wrongM m)) ∧ Below W.heap.size W w') := fun W => wrong_any m ad cap W
  have HP2 : Hid (∀ W, Below w.heap.size w W → Calls Tryd.prog 10 #[.slice bad l.length bcap] W fun e w' => e = .returned (.tuple #[.agg #[.int .i64 0, .int .i64 0, .int .i64 0, .int .i64 0, .int .i64 0, .int .i64 0, .slice none 0 0], .int .i64 q]) ∧ Below W.heap.size W w') := fun W h => by
    refine (mparse_any l _ W (HBV.out W h) hl (HWL.out W h)).mono ?_
    rintro e w' ⟨hb, he⟩
    rw [hp] at he
    exact ⟨he, hb⟩
  have hq0 : (q != 0) = true := bne_iff_ne.2 (parse_err hp)
  have HST : Hid (∀ dv : Value, TW w (w.alloc (.cells #[.int .i64 m.kind, .int .i64 m.worker, .int .i64 m.unit, .int .i64 m.turn, .int .i64 m.err, .int .i64 m.place, dv] 27)) m.kind m.worker m.unit m.turn m.err m.place dv) := fun dv => tw_start w _ _ _ _ _ _ dv
  have hw0 : (wrongM m == 0) = false := by simpa using hw
  generalize wrongM m = y at *
  clear hD hv hW hw HWL HDA HBV hp
  unfold msV at *
  obtain ⟨k, wk, u, t, x, p, ml⟩ := m
  simp only at *
  generalize ml.length = mn at *
  go_enter Tryd.func4, Tryd.ntmps4
  go_wp2_with (first | (go_at_call 13; refine (HAL.out _ (HST.out _).bel).mono ?_; rintro e w1 ⟨rfl, hb1⟩; have h1 := (HST.out _).next hb1; obtain ⟨c0, c1, c2, c3, c4, c5, c6, hz⟩ := h1.cells; have H1 := Lib.hid h1; clear hb1 h1) | (go_at_call 8; refine (HWR.out _).mono ?_; rintro e w2 ⟨rfl, hb2⟩; have h2 := H1.out.next hb2; obtain ⟨d0, d1, d2, d3, d4, d5, d6, hz2⟩ := h2.cells; have H2 := Lib.hid h2; clear hb2 h2 c0 c1 c2 c3 c4 c5 c6) | (go_at_call 10; refine (HP2.out _ H2.out.bel).mono ?_; rintro e w6 ⟨rfl, hb6⟩; have h6 := H2.out.next hb6; have H6 : Hid (∀ o, TW w (w6.alloc o) k wk u t x p (.slice ad mn cap)) := fun o => h6.next (oalloc _ _); clear hb6 h6))
  go_ret
  exact ⟨rfl, (H6.out _).bel⟩

end Go.Proofs.YtmbjahjkgjkbhaaDoor
