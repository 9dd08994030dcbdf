/- 'alive' answers true: the walk. -/
import Derived.Test.YtibenegbjpoclabDoorAlA
namespace Go.Proofs.YtibenegbjpoclabDoor
open Go.RowKit

theorem alive_ans {w' : World} {N : Nat} {r : Except Int (Ex × List Tok)} {e : Ending} (hr : Parses aliveT r) (h : ParseAns w' N aliveT r e) :
    ∃ ad cap, e = .returned (.tuple #[.agg #[.int .i64 6, .int .i64 0, .string ⟨#[]⟩, .slice ad 2 cap], .int .i64 5, .int .i64 0]) ∧ KR w' (fun b => N ≤ b) (.slice ad 2 cap) aliveK := by
  obtain rfl := hr.same alive_parses
  obtain ⟨kv, c', rfl, hk, hd, h0, hle⟩ := h
  have hc : c' = 5 := by
    have := congrArg List.length hd
    simp [aliveT] at this hle
    omega
  subst hc
  obtain ⟨ad, cap, rfl⟩ := hk.shape
  exact ⟨ad, cap, rfl, hk⟩

theorem treads_new (w : World) (ts : List Tok) (t : TypeId) (cap : Nat) (h : ts.length ≤ maxLen) : TReads (w.alloc (.cells (tcells ts).toArray t)) (.slice (some ⟨w.heap.size, 0, none⟩) ts.length cap) ts := by
  refine ⟨_, cap, rfl, h, fun _ => ⟨w.heap.size, 0, rfl, by simp, fun i hi => ?_⟩⟩
  obtain ⟨h0, h1, h2⟩ := tcells_at ts i hi
  refine ⟨?_, ?_, ?_⟩
  · rw [World.cell?_alloc_new]; simpa using h0
  · rw [World.cell?_alloc_new]; simpa using h1
  · rw [World.cell?_alloc_new]; simpa using h2

set_option maxHeartbeats 4000000 in
set_option maxRecDepth 100000 in
theorem alive_any (w : World) (hL : KLaid w) (hT : Lib.TabIs Tryd.prog w "internal/strconv.uint64pow10" .u64 Lib.pow10Tab) (hs : 1 < w.heap.size) :
    Calls Tryd.prog 11 #[] w fun e w' => e = .returned (.bool true) ∧ Below w.heap.size w w' := by
  go_enter Tryd.func11, Tryd.ntmps11
  go_wp2_with fail
  refine (num_any 2 _).mono ?_
  rintro e w1 ⟨rfl, hb1⟩
  go_wp2_with fail
  refine (signT_any _ _).mono ?_
  rintro e w2 ⟨rfl, hb2⟩
  go_wp2_with fail
  refine (num_any 3 _).mono ?_
  rintro e w3 ⟨rfl, hb3⟩
  go_wp2_with fail
  refine (signT_any _ _).mono ?_
  rintro e w4 ⟨rfl, hb4⟩
  go_wp2_with fail
  refine (num_any 4 _).mono ?_
  rintro e w5 ⟨rfl, hb5⟩
  go_wp2_with fail
  refine (signT_any _ _).mono ?_
  rintro e w6 ⟨rfl, hb6⟩
  have hb : Below w.heap.size w w6 := hb1.trans ((hb2.mono hb1.size).trans ((hb3.mono (Nat.le_trans hb1.size hb2.size)).trans ((hb4.mono (Nat.le_trans hb1.size (Nat.le_trans hb2.size hb3.size))).trans ((hb5.mono (Nat.le_trans hb1.size (Nat.le_trans hb2.size (Nat.le_trans hb3.size hb4.size)))).trans (hb6.mono (Nat.le_trans hb1.size (Nat.le_trans hb2.size (Nat.le_trans hb3.size (Nat.le_trans hb4.size hb5.size)))))))))
  clear hb1 hb2 hb3 hb4 hb5 hb6
  go_wp2_with fail
  have hb7 : Below w.heap.size w (w6.alloc (.cells (tcells aliveT).toArray 63)) := hb.alloc hb.size _
  refine (parse_any _ aliveT (w6.alloc (.cells (tcells aliveT).toArray 63)) (treads_new w6 aliveT 63 6 (by decide)) (hL.below hb7 (by omega))).mono ?_
  rintro e w8 ⟨⟨r, hr, ha⟩, hb8⟩
  obtain ⟨ad, cap, rfl, hk⟩ := alive_ans hr ha
  have hB8 : Below w.heap.size w w8 := hb7.trans (hb8.mono hb7.size)
  clear ha hr hb hb7 hb8
  obtain ⟨w9, hw9⟩ : ∃ w9, w9 = w8.alloc (.cells #[.int .i64 6, .int .i64 0, .string ⟨#[]⟩, .slice ad 2 cap] 25) := ⟨_, rfl⟩
  have hb9 : Below w8.heap.size w8 w9 := by rw [hw9]; exact (Below.refl _ _).alloc (Nat.le_refl _) _
  have hv9 : Var4 w9 w8.heap.size (.int .i64 6) (.int .i64 0) (.string ⟨#[]⟩) (.slice ad 2 cap) := by rw [hw9]; exact var4_new w8 _ _ _ _ _
  have hs9 : w9.heap.size = w8.heap.size + 1 := by rw [hw9]; simp
  have hB9 : Below w.heap.size w w9 := hB8.trans (hb9.mono hB8.size)
  have hz8 := hB8.size
  have hk9 := hk.under hb9 (Nat.le_refl _)
  have hev := eval_any aliveE _ _ [] w9 _ (hL.below hB9 (by omega)) (QReads.nil w9) hk9
  rw [alive_eval] at hev
  simp only [exV, evalV, vaV] at hev
  obtain ⟨⟨x0, x1, x2, x3⟩, _⟩ := hv9
  have hev2 : Calls Tryd.prog 9 #[.agg #[.int .i64 6, .int .i64 0, .string ⟨#[]⟩, .slice ad 2 cap], .slice none 0 0] w9 fun e w' => e = .returned (.tuple #[.agg #[.string ⟨#[]⟩, .int .i64 14], .int .i64 0]) ∧ Below w9.heap.size w9 w' := hev
  rw [hw9] at x0 x1 x2 x3
  clear hev
  go_wp2_with fail
  rw [← hw9]
  rw [← hw9] at x0 x1 x2 x3
  clear hw9
  refine hev2.mono ?_
  rintro e w10 ⟨rfl, hb10⟩
  obtain ⟨w11, hw11⟩ : ∃ w11, w11 = w10.alloc (.cells #[.string ⟨#[]⟩, .int .i64 14] 32) := ⟨_, rfl⟩
  have hb11 : Below w10.heap.size w10 w11 := by rw [hw11]; exact (Below.refl _ _).alloc (Nat.le_refl _) _
  have hs11 : w11.heap.size = w10.heap.size + 1 := by rw [hw11]; simp
  have hv11 : Var2 w11 w10.heap.size (.string ⟨#[]⟩) (.int .i64 14) := by rw [hw11]; exact var2_of (heap_alloc_new _ _)
  have hz10 := hb10.size
  have hb9' : Below w9.heap.size w9 w11 := hb10.trans (hb11.mono hz10)
  have hB11 : Below w.heap.size w w11 := hB9.trans (hb9'.mono (by omega))
  have hev3 := eval_any (.mk 2 0 [97] []) (.slice none 0 0) _ [] w11 (fun _ => True) (hL.below hB11 (by omega)) (QReads.nil w11) (KR.nil _ _)
  rw [alive_name] at hev3
  have hev4 : Calls Tryd.prog 9 #[.agg #[.int .i64 2, .int .i64 0, .string ⟨#[97]⟩, .slice none 0 0], .slice none 0 0] w11 fun e w' => e = .returned (.tuple #[.agg #[.string ⟨#[97]⟩, .int .i64 0], .int .i64 0]) ∧ Below w11.heap.size w11 w' := hev3
  clear hev3 hev2 hb10 hb11
  go_wp2_with fail
  rw [← hw11]
  clear hw11
  refine hev4.mono ?_
  rintro e w12 ⟨rfl, hb12⟩
  obtain ⟨w13, hw13⟩ : ∃ w13, w13 = w12.alloc (.cells #[.string ⟨#[97]⟩, .int .i64 0] 32) := ⟨_, rfl⟩
  have hb13 : Below w12.heap.size w12 w13 := by rw [hw13]; exact (Below.refl _ _).alloc (Nat.le_refl _) _
  have hz12 := hb12.size
  have hb11' : Below w11.heap.size w11 w13 := hb12.trans (hb13.mono hz12)
  have hB13 : Below w.heap.size w w13 := hB11.trans (hb11'.mono (by omega))
  have hb9'' : Below w9.heap.size w9 w13 := hb9'.trans (hb11'.mono (by omega))
  have hv13 : Var2 w13 w12.heap.size (.string ⟨#[97]⟩) (.int .i64 0) := by rw [hw13]; exact var2_of (heap_alloc_new _ _)
  obtain ⟨⟨a0, a1⟩, _⟩ := hv11.keep (hb11'.block _ (by omega))
  obtain ⟨⟨b0, b1⟩, _⟩ := hv13
  have hz13 := hb13.size
  have hpr := print_any (e := aliveE) (.slice ad 2 cap) w13 _ alive_wf (hL.below hB13 (by omega)) (tab_below hT hB13 hs) (by have := hB13.size; omega) (hk9.under hb9'' (Nat.le_refl _)) (by rw [alive_text]; decide)
  rw [alive_text] at hpr
  have hpr2 : Calls Tryd.prog 13 #[.agg #[.int .i64 6, .int .i64 0, .string ⟨#[]⟩, .slice ad 2 cap]] w13 fun e w' => e = .returned (.string ⟨#[40, 32, 50, 32, 43, 32, 40, 32, 51, 32, 42, 32, 52, 32, 41, 32, 41]⟩) ∧ Below w13.heap.size w13 w' := hpr
  have c0 := (hb9''.cell (p := ⟨w8.heap.size, 0, none⟩) (by show w8.heap.size < w9.heap.size; omega)).trans x0
  have c1 := (hb9''.cell (p := ⟨w8.heap.size, 1, none⟩) (by show w8.heap.size < w9.heap.size; omega)).trans x1
  have c2 := (hb9''.cell (p := ⟨w8.heap.size, 2, none⟩) (by show w8.heap.size < w9.heap.size; omega)).trans x2
  have c3 := (hb9''.cell (p := ⟨w8.heap.size, 3, none⟩) (by show w8.heap.size < w9.heap.size; omega)).trans x3
  rw [hw13] at a0 a1 b0 b1 c0 c1 c2 c3
  have HB13 : Hid (Below w.heap.size w w13) := hB13
  clear hev4 hpr hb12 hb13 hB13 hB11 hB9 hB8 hb9 hb9' hb9'' hb11' hv11 x0 x1 x2 x3 hk hk9 hT hL
  go_wp2_with fail
  rw [← hw13]
  clear hw13 a0 a1 b0 b1 c0 c1 c2 c3
  refine hpr2.mono ?_
  rintro e w14 ⟨rfl, hb14⟩
  have HB14 : Hid (Below w.heap.size w w14) := HB13.out.trans (hb14.mono HB13.out.size)
  clear hpr2 hb14
  go_wp2
  go_ret
  exact ⟨rfl, HB14.out⟩

end Go.Proofs.YtibenegbjpoclabDoor
