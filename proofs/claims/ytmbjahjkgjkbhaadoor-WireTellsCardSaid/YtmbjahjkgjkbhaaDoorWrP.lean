/- The contract of the law: what the program tells of messages and bytes is what the document's own answer tells. -/
import Derived.Test.YtmbjahjkgjkbhaaDoorWrK
import Derived.Test.YtmbjahjkgjkbhaaDoorWrO3
namespace Go.Proofs.YtmbjahjkgjkbhaaDoor
open Go.RowKit

/-- The document's own message of any bytes. -/
theorem rparse_any (l : List UInt8) (v : Value) (w : World) (hv : RB w w.heap.size v l) (hl : l.length ≤ 140737488355328) :
    Calls Tryd.prog 11 #[v] w fun e w' => Below w.heap.size w w' ∧ match parseM l with
      | .error x => e = .returned (.tuple #[.agg zeroA, .int .i64 x])
      | .ok m => ∃ dv, e = .returned (.tuple #[msV m dv, .int .i64 0]) ∧ Out w' w.heap.size dv m.data := by
  by_cases h14 : 14 ≤ l.length
  · by_cases h1 : (l.length : Int) = 14 + n4 l 8
    · by_cases h2 : sumL (l.take (l.length - 2)) = n2 l (l.length - 2)
      · refine (rparse_good l v w hv hl h14 h1 h2).mono ?_
        rintro e w' ⟨hb, hbad, hok⟩
        refine ⟨hb, ?_⟩
        unfold parseM
        rw [if_pos ⟨h1, h2⟩]
        by_cases h3 : wrongM (msgOf l) = 0
        · rw [if_pos h3]; exact hok h3
        · rw [if_neg h3]; exact hbad h3
      · refine (rparse_sum l v w hv hl h14 h1 h2).mono ?_
        rintro e w' ⟨hb, he⟩
        refine ⟨hb, ?_⟩
        unfold parseM
        rw [if_neg (fun h => h2 h.2)]
        exact he
    · refine (rparse_len l v w hv hl h14 h1).mono ?_
      rintro e w' ⟨hb, he⟩
      refine ⟨hb, ?_⟩
      unfold parseM
      rw [if_neg (fun h => h1 h.1)]
      exact he
  · refine (rparse_short l v w hv (by omega)).mono ?_
    rintro e w' ⟨hb, he⟩
    refine ⟨hb, ?_⟩
    unfold parseM
    rw [if_neg (fun h => h14 (good_len h).1)]
    exact he

def zeroMs : Ms := ⟨0, 0, 0, 0, 0, 0, []⟩
/-- What Parse answers: the message, and the error. -/
def resM (l : List UInt8) : Ms × Int := match parseM l with
  | .ok m => (m, 0)
  | .error x => (zeroMs, x)
theorem resM_of {l : List UInt8} {e : Ending} {w' : World} {base : Nat} (h : match parseM l with
      | .error x => e = .returned (.tuple #[.agg zeroA, .int .i64 x])
      | .ok m => ∃ dv, e = .returned (.tuple #[msV m dv, .int .i64 0]) ∧ Out w' base dv m.data) :
    ∃ ad n c, e = .returned (.tuple #[msV (resM l).1 (.slice ad n c), .int .i64 (resM l).2]) ∧ OBytes w' (.slice ad n c) (resM l).1.data := by
  unfold resM
  cases hp : parseM l with
  | ok m =>
    rw [hp] at h
    obtain ⟨dv, rfl, ho⟩ := h
    have hn := (right_of (bytes_parseM hp).1).2.2.2
    have hb := ho.bytes (by unfold maxLen; omega)
    obtain ⟨ad, c, rfl, _⟩ := id hb
    exact ⟨ad, _, c, rfl, hb⟩
  | error x =>
    rw [hp] at h
    refine ⟨none, 0, 0, h, ⟨none, 0, rfl, Nat.zero_le _, fun h0 => absurd h0 (Nat.lt_irrefl 0)⟩⟩
/-- What Bytes answers beside the error. -/
def resB (m : Ms) : List UInt8 := if wrongM m = 0 then bytesM m else []

theorem bytes_both (m : Ms) (ad : Option Addr) (cap : Nat) (w : World) (hD : OBytes w (.slice ad m.data.length cap) m.data) (hW : WL w) :
    Calls Tryd.prog 6 #[msV m (.slice ad m.data.length cap)] w fun e w' => ∃ a n c, e = .returned (.tuple #[.slice a n c, .int .i64 (wrongM m)]) ∧ Below w.heap.size w w' ∧ OBytes w' (.slice a n c) (resB m) := by
  unfold resB
  by_cases hw : wrongM m = 0
  · have hn := (right_of hw).2.2.2
    refine (mbytes_good m _ w hD hW hw).mono ?_
    rintro e w' ⟨v, rfl, hb, ho⟩
    have hby := ho.bytes (by rw [bytesM_len]; unfold maxLen; omega)
    obtain ⟨a, c, rfl, _⟩ := id hby
    rw [if_pos hw]
    exact ⟨a, _, c, by rw [hw], hb, hby⟩
  · refine (mbytes_bad m ad cap w hw).mono ?_
    rintro e w' ⟨rfl, hb⟩
    rw [if_neg hw]
    exact ⟨none, 0, 0, rfl, hb, ⟨none, 0, rfl, Nat.zero_le _, fun h0 => absurd h0 (by decide)⟩⟩
theorem rbytes_both (m : Ms) (ad : Option Addr) (cap : Nat) (w : World) (hD : OBytes w (.slice ad m.data.length cap) m.data) :
    Calls Tryd.prog 7 #[msV m (.slice ad m.data.length cap)] w fun e w' => ∃ a n c, e = .returned (.tuple #[.slice a n c, .int .i64 (wrongM m)]) ∧ Below w.heap.size w w' ∧ OBytes w' (.slice a n c) (resB m) := by
  unfold resB
  by_cases hw : wrongM m = 0
  · have hn := (right_of hw).2.2.2
    refine (rbytes_good m ad cap w hD hw).mono ?_
    rintro e w' ⟨v, rfl, hb, ho⟩
    have hby := ho.bytes (by rw [bytesM_len]; unfold maxLen; omega)
    obtain ⟨a, c, rfl, _⟩ := id hby
    rw [if_pos hw]
    exact ⟨a, _, c, by rw [hw], hb, hby⟩
  · refine (rbytes_bad m ad cap w hw).mono ?_
    rintro e w' ⟨rfl, hb⟩
    rw [if_neg hw]
    exact ⟨none, 0, 0, rfl, hb, ⟨none, 0, rfl, Nat.zero_le _, fun h0 => absurd h0 (by decide)⟩⟩

/-- What is kept: the message's box, and the two texts. -/
structure TS (w W : World) (k wk u t x p : Int) (dv : Value) (b1 b2 : Value) (bs : List UInt8) : Prop where
  tw : TW w W k wk u t x p dv
  t1 : OBytes W b1 bs
  t2 : OBytes W b2 bs
theorem TS.next {w W W' : World} {k wk u t x p : Int} {dv b1 b2 : Value} {bs : List UInt8} (h : TS w W k wk u t x p dv b1 b2 bs) (hb : Below W.heap.size W W') : TS w W' k wk u t x p dv b1 b2 bs :=
  ⟨h.tw.next hb, h.t1.below hb (Nat.le_refl _), h.t2.below hb (Nat.le_refl _)⟩

set_option maxHeartbeats 8000000 in
set_option maxRecDepth 100000 in
theorem wtells_any (m : Ms) (ad : Option Addr) (cap : Nat) (l : List UInt8) (v : Value) (w : World) (hM : RB w w.heap.size (.slice ad m.data.length cap) m.data) (hMl : m.data.length ≤ 140737488351232) (hv : RB w w.heap.size v l) (hl : l.length ≤ 140737488351232) (hW : WL w) :
    Calls Tryd.prog 3 #[msV m (.slice ad m.data.length cap), v] w fun e w' => e = .returned (.bool true) ∧ Below w.heap.size w w' := by
  have hD := hM.bytes (Nat.le_refl _) (by unfold maxLen; omega)
  have HWL : Hid (∀ W, Below w.heap.size w W → WL W) := fun W h => hW.below h (Nat.le_refl _)
  have HDA : Hid (∀ W, Below w.heap.size w W → OBytes W (.slice ad m.data.length cap) m.data) := fun W h => hD.below h (Nat.le_refl _)
  have HBV : Hid (∀ W, Below w.heap.size w W → RB W W.heap.size v l) := fun W h => hv.next h
  have HWR : Hid (∀ W, Calls Tryd.prog 8 #[msV m (.slice ad m.data.length cap)] W fun e w' => e = .returned (.int .i64 (wrongM m)) ∧ Below W.heap.size W w') := fun W => wrong_any m ad cap W
  have HRW : Hid (∀ W, Calls Tryd.prog 9 #[msV m (.slice ad m.data.length cap)] W fun e w' => e = .returned (.int .i64 (wrongM m)) ∧ Below W.heap.size W w') := fun W => rwrong_any m ad cap W
  have HBY : Hid (∀ W, Below w.heap.size w W → Calls Tryd.prog 6 #[msV m (.slice ad m.data.length cap)] W fun e w' => ∃ a n c, e = .returned (.tuple #[.slice a n c, .int .i64 (wrongM m)]) ∧ Below W.heap.size W w' ∧ OBytes w' (.slice a n c) (resB m)) := fun W h => bytes_both m ad cap W (HDA.out W h) (HWL.out W h)
  have HRY : Hid (∀ W, Below w.heap.size w W → Calls Tryd.prog 7 #[msV m (.slice ad m.data.length cap)] W fun e w' => ∃ a n c, e = .returned (.tuple #[.slice a n c, .int .i64 (wrongM m)]) ∧ Below W.heap.size W w' ∧ OBytes w' (.slice a n c) (resB m)) := fun W h => rbytes_both m ad cap W (HDA.out W h)
  have HPA : Hid (∀ W, Below w.heap.size w W → Calls Tryd.prog 10 #[v] W fun e w' => ∃ a n c, e = .returned (.tuple #[msV (resM l).1 (.slice a n c), .int .i64 (resM l).2]) ∧ Below W.heap.size W w' ∧ OBytes w' (.slice a n c) (resM l).1.data) := fun W h => by
    refine (mparse_any l v W (HBV.out W h) (by omega) (HWL.out W h)).mono ?_
    rintro e w' ⟨hb, he⟩
    obtain ⟨a, n, c, he, ho⟩ := resM_of he
    exact ⟨a, n, c, he, hb, ho⟩
  have HRP : Hid (∀ W, Below w.heap.size w W → Calls Tryd.prog 11 #[v] W fun e w' => ∃ a n c, e = .returned (.tuple #[msV (resM l).1 (.slice a n c), .int .i64 (resM l).2]) ∧ Below W.heap.size W w' ∧ OBytes w' (.slice a n c) (resM l).1.data) := fun W h => by
    refine (rparse_any l v W (HBV.out W h) (by omega)).mono ?_
    rintro e w' ⟨hb, he⟩
    obtain ⟨a, n, c, he, ho⟩ := resM_of he
    exact ⟨a, n, c, he, hb, ho⟩
  have HSA : Hid (∀ W a1 n1 c1 a2 n2 c2, OBytes W (.slice a1 n1 c1) (resM l).1.data → OBytes W (.slice a2 n2 c2) (resM l).1.data → Calls Tryd.prog 12 #[msV (resM l).1 (.slice a1 n1 c1), msV (resM l).1 (.slice a2 n2 c2)] W fun e w' => e = .returned (.bool true) ∧ Below W.heap.size W w') := fun W a1 n1 c1 a2 n2 c2 h1 h2 => msame_any _ _ _ W h1 h2
  have HST : Hid (∀ dv : Value, TW w (w.alloc (.cells #[.int .i64 m.kind, .int .i64 m.worker, .int .i64 m.unit, .int .i64 m.turn, .int .i64 m.err, .int .i64 m.place, dv] 27)) m.kind m.worker m.unit m.turn m.err m.place dv) := fun dv => tw_start w _ _ _ _ _ _ dv
  clear hD hM hv hW HWL HDA HBV
  generalize wrongM m = y at *
  generalize resB m = bs at *
  generalize (resM l).2 = z at *
  generalize (resM l).1 = q at *
  obtain ⟨qk, qw, qu, qt, qx, qp, ql⟩ := q
  obtain ⟨k, wk, u, t, x, p, ml⟩ := m
  unfold msV at *
  simp only at *
  generalize ml.length = mn at *
  go_enter Tryd.func3, Tryd.ntmps3
  go_wp2_with (first | (go_at_call 6; refine (HBY.out _ (HST.out _).bel).mono ?_; rintro e w1 ⟨a1, n1, c1, rfl, hb1, ho1⟩; have h1 := (HST.out _).next hb1; obtain ⟨d0, d1, d2, d3, d4, d5, d6, hz⟩ := h1.cells; have H1 := Lib.hid h1; have HO1 := Lib.hid ho1; clear hb1 h1 ho1 HBY) | (go_at_call 7; refine (HRY.out _ H1.out.bel).mono ?_; rintro e w2 ⟨a2, n2, c2, rfl, hb2, ho2⟩; have HTS : Hid (TS w w2.drew k wk u t x p (.slice ad mn cap) (.slice a1 n1 c1) (.slice a2 n2 c2) bs) := (show TS w w2 k wk u t x p (.slice ad mn cap) (.slice a1 n1 c1) (.slice a2 n2 c2) bs from ⟨H1.out.next hb2, HO1.out.below hb2 (Nat.le_refl _), ho2⟩).next (Below.refl _ _).drew; clear hb2 ho2 HRY d0 d1 d2 d3 d4 d5 d6))
  refine wp_region_noPanic ?_
  refine wp_region_held_drew (S := fun w' => TS w w' k wk u t x p (.slice ad mn cap) (.slice a1 n1 c1) (.slice a2 n2 c2) bs) (by kernel_rfl) HTS.out (fun hHeld => ?_)
  generalize w2.drew = V0 at *
  clear HTS H1 HO1
  refine take_at 0 21 (v := ?_) rfl rfl (by kernel_rfl) (by kernel_rfl) (by kernel_rfl) (fun _ _ _ h => h) rfl ?_ hHeld ?_
  rotate_left
  · intro w hSw
    go_simp
    try with_reducible rfl
  simp only [List.setIfInBounds_toArray, List.set_cons_zero, List.set_cons_succ]
  refine take_at 1 22 (v := ?_) rfl rfl (by kernel_rfl) (by kernel_rfl) (by kernel_rfl) (fun _ _ _ h => h) rfl ?_ hHeld ?_
  rotate_left
  · intro w hSw
    go_simp
    try with_reducible rfl
  simp only [List.setIfInBounds_toArray, List.set_cons_zero, List.set_cons_succ]
  refine take_at 2 23 (v := ?_) rfl rfl (by kernel_rfl) (by kernel_rfl) (by kernel_rfl) (fun _ _ _ h => h) rfl ?_ hHeld ?_
  rotate_left
  · intro w hSw
    go_simp
    try with_reducible rfl
  simp only [List.setIfInBounds_toArray, List.set_cons_zero, List.set_cons_succ]
  refine take_at 3 24 (v := ?_) rfl rfl (by kernel_rfl) (by kernel_rfl) (by kernel_rfl) (fun _ _ _ h => h) rfl ?_ hHeld ?_
  rotate_left
  · intro w hSw
    go_simp
    try with_reducible rfl
  simp only [List.setIfInBounds_toArray, List.set_cons_zero, List.set_cons_succ]
  refine take_at 4 25 (v := ?_) rfl rfl (by kernel_rfl) (by kernel_rfl) (by kernel_rfl) (fun _ _ _ h => h) rfl ?_ hHeld ?_
  rotate_left
  · intro w hSw
    go_simp
    try with_reducible rfl
  simp only [List.setIfInBounds_toArray, List.set_cons_zero, List.set_cons_succ]
  refine take_at 5 26 (v := ?_) rfl rfl (by kernel_rfl) (by kernel_rfl) (by kernel_rfl) (fun _ _ _ h => h) rfl ?_ hHeld ?_
  rotate_left
  · intro w hSw
    have y := oconv hSw.t1
    go_simp
    try with_reducible rfl
  simp only [List.setIfInBounds_toArray, List.set_cons_zero, List.set_cons_succ]
  refine take_at 6 27 (v := ?_) rfl rfl (by kernel_rfl) (by kernel_rfl) (by kernel_rfl) (fun _ _ _ h => h) rfl ?_ hHeld ?_
  rotate_left
  · intro w hSw
    go_simp
    try with_reducible rfl
  simp only [List.setIfInBounds_toArray, List.set_cons_zero, List.set_cons_succ]
  refine take_at 7 28 (v := ?_) rfl rfl (by kernel_rfl) (by kernel_rfl) (by kernel_rfl) (fun _ _ _ h => h) rfl ?_ hHeld ?_
  rotate_left
  · intro w hSw
    have y := oconv hSw.t2
    go_simp
    try with_reducible rfl
  simp only [List.setIfInBounds_toArray, List.set_cons_zero, List.set_cons_succ]
  refine take_at 8 29 (v := ?_) rfl rfl (by kernel_rfl) (by kernel_rfl) (by kernel_rfl) (fun _ _ _ h => h) rfl ?_ hHeld ?_
  rotate_left
  · intro w hSw
    go_simp
    try with_reducible rfl
  simp only [List.setIfInBounds_toArray, List.set_cons_zero, List.set_cons_succ]
  refine take_at 9 30 (v := ?_) rfl rfl (by kernel_rfl) (by kernel_rfl) (by kernel_rfl) (fun _ _ _ h => h) rfl ?_ hHeld ?_
  rotate_left
  · intro w hSw
    go_simp
    try with_reducible rfl
  simp only [List.setIfInBounds_toArray, List.set_cons_zero, List.set_cons_succ]
  refine take_at 10 31 (v := ?_) rfl rfl (by kernel_rfl) (by kernel_rfl) (by kernel_rfl) (fun _ _ _ h => h) rfl ?_ hHeld ?_
  rotate_left
  · intro w hSw
    go_simp
    try with_reducible rfl
  simp only [List.setIfInBounds_toArray, List.set_cons_zero, List.set_cons_succ]
  refine take_at 11 32 (v := ?_) rfl rfl (by kernel_rfl) (by kernel_rfl) (by kernel_rfl) (fun _ _ _ h => h) rfl ?_ hHeld ?_
  rotate_left
  · intro w hSw
    obtain ⟨d0, d1, d2, d3, d4, d5, d6, hz⟩ := hSw.tw.cells
    go_simp
    try with_reducible rfl
  simp only [List.setIfInBounds_toArray, List.set_cons_zero, List.set_cons_succ]
  refine take_at 13 34 (v := ?_) rfl rfl (by kernel_rfl) (by kernel_rfl) (by kernel_rfl) (fun _ _ _ h => h) rfl ?_ hHeld ?_
  rotate_left
  · intro w hSw
    obtain ⟨d0, d1, d2, d3, d4, d5, d6, hz⟩ := hSw.tw.cells
    go_simp
    try with_reducible rfl
  simp only [List.setIfInBounds_toArray, List.set_cons_zero, List.set_cons_succ]
  refine wpAnyH_ready (rs := [12]) (by kernel_rfl) (by simp) ?_
  refine AllReadyH.cons rfl (fun K hK => ?_) AllReadyH.nil
  go_simp
  refine (HWR.out V0).mono ?_
  rintro e V1 ⟨rfl, hb1⟩
  have hH := hHeld.next hb1
  refine hK.out _ _ hH (fun hHeld => ?_)
  clear hK K hb1 hH
  refine wpAnyH_ready (rs := [14]) (by kernel_rfl) (by simp) ?_
  refine AllReadyH.cons rfl (fun K hK => ?_) AllReadyH.nil
  go_simp
  refine (HRW.out V1).mono ?_
  rintro e V2 ⟨rfl, hb1⟩
  have hH := hHeld.next hb1
  refine hK.out _ _ hH (fun hHeld => ?_)
  clear hK K hb1 hH
  refine take_at 15 36 (v := ?_) rfl rfl (by kernel_rfl) (by kernel_rfl) (by kernel_rfl) (fun _ _ _ h => h) rfl ?_ hHeld ?_
  rotate_left
  · intro w hSw
    go_simp
    try with_reducible rfl
  simp only [List.setIfInBounds_toArray, List.set_cons_zero, List.set_cons_succ]
  refine take_at 16 37 (v := ?_) rfl rfl (by kernel_rfl) (by kernel_rfl) (by kernel_rfl) (fun _ _ _ h => h) rfl ?_ hHeld ?_
  rotate_left
  · intro w hSw
    go_simp
    try with_reducible rfl
  simp only [List.setIfInBounds_toArray, List.set_cons_zero, List.set_cons_succ]
  refine wpAnyH_done (by kernel_rfl) ?_ _
  refine NoPanic.normal ?_
  have HB := Lib.hid hHeld.tw.bel
  clear hHeld
  go_wp2_with (first | (go_at_call 10; refine (HPA.out _ HB.out).mono ?_; rintro e w3 ⟨a3, n3, c3, rfl, hb3, ho3⟩; have HB3 : Hid (∀ o, Below w.heap.size w (w3.alloc o)) := fun o => bnext (bnext HB.out hb3) (oalloc _ _); have HO3 : Hid (∀ o, OBytes (w3.alloc o) (.slice a3 n3 c3) ql) := fun o => ho3.below (oalloc _ _) (Nat.le_refl _); clear hb3 ho3 HPA) | (go_at_call 11; refine (HRP.out _ (HB3.out _)).mono ?_; rintro e w4 ⟨a4, n4, c4, rfl, hb4, ho4⟩; have hbx := msbox hb4; have c0 := cell_of_block (i := 0) hbx rfl; have f0 : w4.cell? ⟨w3.heap.size, 0, none⟩ = some (.int .i64 qk) := cell_of_block hbx rfl; have f1 : w4.cell? ⟨w3.heap.size, 1, none⟩ = some (.int .i64 qw) := cell_of_block hbx rfl; have f2 : w4.cell? ⟨w3.heap.size, 2, none⟩ = some (.int .i64 qu) := cell_of_block hbx rfl; have f3 : w4.cell? ⟨w3.heap.size, 3, none⟩ = some (.int .i64 qt) := cell_of_block hbx rfl; have f4 : w4.cell? ⟨w3.heap.size, 4, none⟩ = some (.int .i64 qx) := cell_of_block hbx rfl; have f5 : w4.cell? ⟨w3.heap.size, 5, none⟩ = some (.int .i64 qp) := cell_of_block hbx rfl; have f6 : w4.cell? ⟨w3.heap.size, 6, none⟩ = some (.slice a3 n3 c3) := cell_of_block hbx rfl; have hz4 : w3.heap.size < w4.heap.size := (Array.getElem?_eq_some_iff.1 hbx).1; have HB4 : Hid (∀ o, Below w.heap.size w (w4.alloc o)) := fun o => bnext (bnext (HB3.out _) hb4) (oalloc _ _); have HO4 : Hid (∀ o, OBytes (w4.alloc o) (.slice a3 n3 c3) ql ∧ OBytes (w4.alloc o) (.slice a4 n4 c4) ql) := fun o => ⟨((HO3.out _).below hb4 (Nat.le_refl _)).below (oalloc _ _) (Nat.le_refl _), ho4.below (oalloc _ _) (Nat.le_refl _)⟩; clear hb4 ho4 HRP hbx c0) | (go_at_call 12; refine (HSA.out _ _ _ _ _ _ _ (HO4.out _).1 (HO4.out _).2).mono ?_; rintro e w5 ⟨rfl, hb5⟩; have HB5 := Lib.hid (bnext (HB4.out _) hb5); clear hb5))
  go_ret
  exact ⟨rfl, HB5.out⟩

end Go.Proofs.YtmbjahjkgjkbhaaDoor
