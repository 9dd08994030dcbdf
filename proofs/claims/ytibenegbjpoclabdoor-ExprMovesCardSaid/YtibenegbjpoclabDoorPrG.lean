/- The contract of Print's inner function: what has two parts. -/
import Derived.Test.YtibenegbjpoclabDoorPrF
namespace Go.Proofs.YtibenegbjpoclabDoor
open Go.RowKit

theorem kSign_len2 (kd : Int) : ¬ 9223372036854775807 < 1 + (kSign kd).length := by have := kSign_len kd; omega
theorem kSign_len3 (kd : Int) : ¬ 9223372036854775807 < ([32] ++ kSign kd).length + 1 := by
  unfold kSign
  match kd.toNat with
  | 0 | 1 | 2 | 3 | 4 | 5 | 6 | 7 | 8 | 9 | 10 | 11 => decide
  | n + 12 => simp

set_option maxHeartbeats 8000000 in
set_option maxRecDepth 100000 in
theorem put_two (B b Q : Nat) (kd : Int) (k k' : Ex) (h5 : 5 ≤ kd) (h11 : kd ≤ 11) (hk : Wf k) (hk' : Wf k') (ih : PutOK B b Q k) (ih' : PutOK B b Q k') : PutOK B b Q (.mk kd 0 [] [k, k']) := by
  intro kv l w hM hK hl
  rw [prE_two h5 hk hk', ← signK_kSign h5 h11] at hl ⊢
  obtain ⟨bb, o, cap, rfl, hbB, hbl, hcs⟩ := kid_cells hK (by simp [Ex.kids])
  obtain ⟨ad2, cap2, hkr, c0, c1, c2, c3⟩ := hcs 0 (by simp [Ex.kids])
  obtain ⟨ad3, cap3, hkr', d0, d1, d2, d3⟩ := hcs 1 (by simp [Ex.kids])
  simp only [exV, Ex.kind, Ex.n, Ex.name, Ex.kids, List.length_cons, List.length_nil, Nat.zero_add, Nat.zero_mul, Nat.one_mul, Nat.add_zero, List.getElem_cons_zero, List.getElem_cons_succ] at hkr c0 c1 c2 c3 hkr' d0 d1 d2 d3 ⊢
  have hle := hM.le
  have hb1 : Below w.heap.size w (w.alloc (.cells #[.int .i64 kd, .int .i64 0, .string ⟨#[]⟩, .slice (some ⟨bb, o, none⟩) 2 cap] 25)) := (Below.refl _ _).alloc (Nat.le_refl _) _
  have hbox : (w.alloc (.cells #[.int .i64 kd, .int .i64 0, .string ⟨#[]⟩, .slice (some ⟨bb, o, none⟩) 2 cap] 25)).heap[w.heap.size]? = some (.cells #[.int .i64 kd, .int .i64 0, .string ⟨#[]⟩, .slice (some ⟨bb, o, none⟩) 2 cap] 25 (0, 0)) := heap_alloc_new _ _
  have hM1 := hM.below hb1
  have hdec : decide (1 ≤ kd ∧ kd ≤ 11 ∧ ((2 : Nat) : Int) = kKids kd) = true := by
    have : kd = 5 ∨ kd = 6 ∨ kd = 7 ∨ kd = 8 ∨ kd = 9 ∨ kd = 10 ∨ kd = 11 := by omega
    rcases this with rfl | rfl | rfl | rfl | rfl | rfl | rfl <;> decide
  have hwh := whole_any kd 0 [] (some ⟨bb, o, none⟩) 2 cap _ hM1.laid
  rw [hdec] at hwh
  have n1 : (kd == 1) = false := by simp; omega
  have n2 : (kd == 2) = false := by simp; omega
  have hr0 : 0 ≤ kd := by omega
  have hr1 : kd < 12 := by omega
  have HM : Hid (PrM w B b Q l) := hM
  have HK : Hid (KR w (fun k => k < B) (.slice ad2 k.kids.length cap2) k.kids) := hkr
  have HK' : Hid (KR w (fun k => k < B) (.slice ad3 k'.kids.length cap3) k'.kids) := hkr'
  have HC : Hid (w.cell? ⟨bb, o, none⟩ = some (.int .i64 k.kind) ∧ w.cell? ⟨bb, o + 1, none⟩ = some (.int .i64 k.n) ∧ w.cell? ⟨bb, o + 2, none⟩ = some (.string ⟨k.name.toArray⟩) ∧ w.cell? ⟨bb, o + 3, none⟩ = some (.slice ad2 k.kids.length cap2)) := ⟨c0, c1, c2, c3⟩
  have HD : Hid (w.cell? ⟨bb, o + 4, none⟩ = some (.int .i64 k'.kind) ∧ w.cell? ⟨bb, o + 4 + 1, none⟩ = some (.int .i64 k'.n) ∧ w.cell? ⟨bb, o + 4 + 2, none⟩ = some (.string ⟨k'.name.toArray⟩) ∧ w.cell? ⟨bb, o + 4 + 3, none⟩ = some (.slice ad3 k'.kids.length cap3)) := ⟨d0, d1, d2, d3⟩
  have HDec : Hid (decide (1 ≤ kd ∧ kd ≤ 11 ∧ ((2 : Nat) : Int) = kKids kd) = true) := hdec
  have hent : ∀ args w, (callFunc 27 args).run Tryd.prog w = .ok (.enter 27 args) w := enters_of Tryd.func27 (by kernel_rfl) rfl
  clear hM hK hcs hkr c0 c1 c2 c3 hkr' d0 d1 d2 d3 hM1 hdec
  go_enter Tryd.func27, Tryd.ntmps27
  go_wp2_with fail
  refine hwh.mono ?_
  rintro e w2 ⟨rfl, hb2⟩
  have hB2 : Below w.heap.size w w2 := hb1.trans (hb2.mono (by simp))
  have hM2 := HM.out.below hB2
  have hbox2 : w2.heap[w.heap.size]? = _ := (hb2.block _ (by simp)).trans hbox
  obtain ⟨⟨x0, x1, x2, x3⟩, _⟩ := var4_of hbox2
  have hwh2 := whole_any kd 0 [] (some ⟨bb, o, none⟩) 2 cap w2 hM2.laid
  rw [HDec.out] at hwh2
  have HB2 : Hid (w2.heap[w.heap.size]? = some (.cells #[.int .i64 kd, .int .i64 0, .string ⟨#[]⟩, .slice (some ⟨bb, o, none⟩) 2 cap] 25 (0, 0))) := hbox2
  have hz2 : w.heap.size < w2.heap.size := by have := hb2.size; simp at this; omega
  have HBe2 : Hid (Below w.heap.size w w2) := hB2
  clear hwh hb1 hb2 hbox hB2 hM2 hbox2
  go_wp2_with fail
  refine hwh2.mono ?_
  rintro e w3 ⟨rfl, hb3⟩
  have hB3 : Below w.heap.size w w3 := HBe2.out.trans (hb3.mono (Nat.le_of_lt hz2))
  have hM3 := HM.out.below hB3
  have HB3 : Hid (w3.heap[w.heap.size]? = some (.cells #[.int .i64 kd, .int .i64 0, .string ⟨#[]⟩, .slice (some ⟨bb, o, none⟩) 2 cap] 25 (0, 0))) := (hb3.block _ hz2).trans HB2.out
  have hw3 := write_any hM3 [40, 32] (by simp only [List.length_append, List.length_cons, List.length_nil] at hl ⊢; omega)
  have HN3 : Hid (PrN B b w w3) := PrN.of_below hB3 hle
  clear hwh2 hb3 hB3 hM3 HB2 HBe2 x0 x1 x2 x3 hz2
  go_wp2_with fail
  refine hw3.mono ?_
  rintro e w4 ⟨rfl, hM4, hN4⟩
  have hN := HN3.out.trans hN4
  have hbne : w.heap.size ≠ b := fun e => by have := HM.out.blt; omega
  have HB4 : Hid (w4.heap[w.heap.size]? = some (.cells #[.int .i64 kd, .int .i64 0, .string ⟨#[]⟩, .slice (some ⟨bb, o, none⟩) 2 cap] 25 (0, 0))) := hN4.cells HB3.out hbne (by decide)
  obtain ⟨⟨y0, y1, y2, y3⟩, _⟩ := var4_of HB4.out
  have hk4 : KR w4 (fun k => k < B) (.slice ad2 k.kids.length cap2) k.kids := HK.out.keep fun b hp hlt => ⟨hp, Nat.lt_of_lt_of_le hlt hN.bel.size, fun o => hN.bel.cell (by exact hp)⟩
  have q0 : w4.cell? ⟨Q, 0, none⟩ = some (putV b Q) := by simp [World.cell?, hM4.fn]
  obtain ⟨c0, c1, c2, c3⟩ := HC.out
  rw [← hN.bel.cell (by exact hbB)] at c0 c1 c2 c3
  have hcall := ih _ _ w4.drew (hM4.below (Below.refl _ _).drew) (hk4.under (Below.refl w4.heap.size _).drew (Nat.le_refl _)) (by simp only [List.length_append, List.length_cons, List.length_nil] at hl ⊢; omega)
  have HN4 : Hid (PrN B b w w4) := hN
  have hle4 : B ≤ w4.heap.size := Nat.le_trans hle hN.bel.size
  simp only [putV] at q0
  simp only [exV] at hcall
  clear hM4 hN4 hN hk4 hw3 HN3 HB3
  go_wp2
  go_region_with (refine hcall.mono ?_; rintro e w5 ⟨rfl, hM5, hN5⟩)
  all_goals
    have HN5 : Hid (PrN B b w w5) := HN4.out.trans ((PrN.of_below (Below.refl _ _).drew hle4).trans hN5)
    have HB5 : Hid (w5.heap[w.heap.size]? = some (.cells #[.int .i64 kd, .int .i64 0, .string ⟨#[]⟩, .slice (some ⟨bb, o, none⟩) 2 cap] 25 (0, 0))) := hN5.cells (show w4.drew.heap[w.heap.size]? = _ from HB4.out) hbne (by decide)
    have hw5 := write_any hM5 ([32] ++ kSign kd ++ [32]) (by simp only [List.length_append, List.length_cons, List.length_nil] at hl ⊢; omega)
    have hk1 := hM5.laid.k1 kd hr0 (by omega)
    obtain ⟨⟨z0, z1, z2, z3⟩, _⟩ := var4_of HB5.out
    have hs1 := kSign_len2 kd
    have hs2 := kSign_len3 kd
    have hcat1 := cat_l [32] (kSign kd)
    have hcat2 : (⟨(32 :: kSign kd).toArray⟩ : ByteArray) ++ ⟨#[32]⟩ = ⟨(32 :: (kSign kd ++ [32])).toArray⟩ := cat_l (32 :: kSign kd) [32]
    clear hcall hM5 hN5 y0 y1 y2 y3 c0 c1 c2 c3 q0
    go_wp2_with fail
    refine hw5.mono ?_
    rintro e w6 ⟨rfl, hM6, hN6⟩
    have hN := HN5.out.trans hN6
    have HB6 : Hid (w6.heap[w.heap.size]? = some (.cells #[.int .i64 kd, .int .i64 0, .string ⟨#[]⟩, .slice (some ⟨bb, o, none⟩) 2 cap] 25 (0, 0))) := hN6.cells HB5.out hbne (by decide)
    obtain ⟨⟨y0, y1, y2, y3⟩, _⟩ := var4_of HB6.out
    have hk6 : KR w6 (fun k => k < B) (.slice ad3 k'.kids.length cap3) k'.kids := HK'.out.keep fun b hp hlt => ⟨hp, Nat.lt_of_lt_of_le hlt hN.bel.size, fun o => hN.bel.cell (by exact hp)⟩
    have q0 : w6.cell? ⟨Q, 0, none⟩ = some (putV b Q) := by simp [World.cell?, hM6.fn]
    obtain ⟨d0, d1, d2, d3⟩ := HD.out
    rw [← hN.bel.cell (by exact hbB)] at d0 d1 d2 d3
    have hcall := ih' _ _ w6.drew (hM6.below (Below.refl _ _).drew) (hk6.under (Below.refl w6.heap.size _).drew (Nat.le_refl _)) (by simp only [List.length_append, List.length_cons, List.length_nil] at hl ⊢; omega)
    have HN6 : Hid (PrN B b w w6) := hN
    have hle6 : B ≤ w6.heap.size := Nat.le_trans hle hN.bel.size
    simp only [putV] at q0
    simp only [exV] at hcall
    clear hM6 hN6 hN hk6 hw5 HN5 HB5 z0 z1 z2 z3 hcat1 hcat2 hs1 hs2 hk1
    go_wp2
    go_region_with (refine hcall.mono ?_; rintro e w7 ⟨rfl, hM7, hN7⟩)
    all_goals
      have HN7 : Hid (PrN B b w w7) := HN6.out.trans ((PrN.of_below (Below.refl _ _).drew hle6).trans hN7)
      have hw7 := write_any hM7 [32, 41] (by simp only [List.length_append, List.length_cons, List.length_nil] at hl ⊢; omega)
      clear hcall hM7 hN7 y0 y1 y2 y3 d0 d1 d2 d3 q0
      go_wp2_with fail
      refine hw7.mono ?_
      rintro e w8 ⟨rfl, hM8, hN8⟩
      have HM8 : Hid (PrM w8 B b Q (l ++ ([40, 32] ++ prE k ++ ([32] ++ kSign kd ++ [32]) ++ prE k' ++ [32, 41]))) := by unfold Hid; simpa only [List.append_assoc] using hM8
      have HN8 : Hid (PrN B b w w8) := HN7.out.trans hN8
      clear hM8 hN8 hw7 HN7
      go_wp2
      exact bodyPost_end (v := .tuple #[]) (by simp [results, Tryd.results27, go_sem]) rfl ⟨rfl, HM8.out, HN8.out⟩

theorem put_any (B b Q : Nat) {e : Ex} (h : Wf e) : PutOK B b Q e := by
  induction h with
  | num => exact put_num B b Q _
  | name => exact put_name B b Q _
  | neg hk ih => exact put_one B b Q 3 _ (Or.inl rfl) hk ih
  | not hk ih => exact put_one B b Q 4 _ (Or.inr rfl) hk ih
  | two h5 h11 ha hb iha ihb => exact put_two B b Q _ _ _ h5 h11 ha hb iha ihb

end Go.Proofs.YtibenegbjpoclabDoor
