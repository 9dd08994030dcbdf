/- The contract of Print's inner function: what has one part. -/
import Derived.Test.YtibenegbjpoclabDoorPrE
namespace Go.Proofs.YtibenegbjpoclabDoor
open Go.RowKit

theorem prE_one {kd : Int} {k : Ex} (h : kd = 3 ∨ kd = 4) (hk : Wf k) : prE (.mk kd 0 [] [k]) = (kSign kd ++ [32]) ++ prE k := by
  rcases h with rfl | rfl
  · rw [prE_neg hk]; rfl
  · rw [prE_not hk]; rfl

theorem cat_l (a b : List UInt8) : (⟨a.toArray⟩ : ByteArray) ++ ⟨b.toArray⟩ = ⟨(a ++ b).toArray⟩ := by
  apply ByteArray.ext
  simp
theorem kSign_len (kd : Int) : ¬ 9223372036854775807 < (kSign kd).length + 1 := by
  unfold kSign
  match kd.toNat with
  | 0 | 1 | 2 | 3 | 4 | 5 | 6 | 7 | 8 | 9 | 10 | 11 => decide
  | n + 12 => simp

theorem kid_cells {w : World} {B : Nat} {kv : Value} {ks : List Ex} (h : KR w (fun k => k < B) kv ks) (h0 : 0 < ks.length) : ∃ bb o cap, kv = .slice (some ⟨bb, o, none⟩) ks.length cap ∧ bb < B ∧ bb < w.heap.size ∧
    ∀ i (hi : i < ks.length), ∃ ad cap2, KR w (fun k => k < B) (.slice ad ks[i].kids.length cap2) ks[i].kids ∧ w.cell? ⟨bb, o + i * 4, none⟩ = some (.int .i64 ks[i].kind) ∧ w.cell? ⟨bb, o + i * 4 + 1, none⟩ = some (.int .i64 ks[i].n) ∧ w.cell? ⟨bb, o + i * 4 + 2, none⟩ = some (.string ⟨ks[i].name.toArray⟩) ∧ w.cell? ⟨bb, o + i * 4 + 3, none⟩ = some (.slice ad ks[i].kids.length cap2) := by
  cases h with
  | mk ad cap _ vi hm hc hk =>
    obtain ⟨bb, o, rfl, hp, hlt, hcs⟩ := hc h0
    refine ⟨bb, o, cap, rfl, hp, hlt, fun i hi => ?_⟩
    obtain ⟨ad2, cap2, hv⟩ := (hk i hi).shape
    have hkr := hk i hi
    obtain ⟨c0, c1, c2, c3⟩ := hcs i hi
    rw [hv] at hkr c3
    exact ⟨ad2, cap2, hkr, c0, c1, c2, c3⟩

set_option maxHeartbeats 4000000 in
set_option maxRecDepth 100000 in
theorem put_one (B b Q : Nat) (kd : Int) (k : Ex) (hkd : kd = 3 ∨ kd = 4) (hk : Wf k) (ih : PutOK B b Q k) : PutOK B b Q (.mk kd 0 [] [k]) := by
  intro kv l w hM hK hl
  rw [prE_one hkd hk] at hl ⊢
  obtain ⟨bb, o, cap, rfl, hbB, hbl, hcs⟩ := kid_cells hK (by simp [Ex.kids])
  obtain ⟨ad2, cap2, hkr, c0, c1, c2, c3⟩ := hcs 0 (by simp [Ex.kids])
  simp only [exV, Ex.kind, Ex.n, Ex.name, Ex.kids, List.length_cons, List.length_nil, Nat.zero_add, Nat.zero_mul, Nat.add_zero, List.getElem_cons_zero] at hkr c0 c1 c2 c3 ⊢
  have hle := hM.le
  have hb1 : Below w.heap.size w (w.alloc (.cells #[.int .i64 kd, .int .i64 0, .string ⟨#[]⟩, .slice (some ⟨bb, o, none⟩) 1 cap] 25)) := (Below.refl _ _).alloc (Nat.le_refl _) _
  have hbox : (w.alloc (.cells #[.int .i64 kd, .int .i64 0, .string ⟨#[]⟩, .slice (some ⟨bb, o, none⟩) 1 cap] 25)).heap[w.heap.size]? = some (.cells #[.int .i64 kd, .int .i64 0, .string ⟨#[]⟩, .slice (some ⟨bb, o, none⟩) 1 cap] 25 (0, 0)) := heap_alloc_new _ _
  have hM1 := hM.below hb1
  have hwh := whole_any kd 0 [] (some ⟨bb, o, none⟩) 1 cap _ hM1.laid
  have hdec : decide (1 ≤ kd ∧ kd ≤ 11 ∧ ((1 : Nat) : Int) = kKids kd) = true := by rcases hkd with rfl | rfl <;> decide
  rw [hdec] at hwh
  have n1 : (kd == 1) = false := by simp; omega
  have n2 : (kd == 2) = false := by simp; omega
  have hr0 : 0 ≤ kd := by omega
  have hr1 : kd < 12 := by omega
  have HM : Hid (PrM w B b Q l) := hM
  have HK : Hid (KR w (fun k => k < B) (.slice ad2 k.kids.length cap2) k.kids) := hkr
  have HC : Hid (w.cell? ⟨bb, o, none⟩ = some (.int .i64 k.kind) ∧ w.cell? ⟨bb, o + 1, none⟩ = some (.int .i64 k.n) ∧ w.cell? ⟨bb, o + 2, none⟩ = some (.string ⟨k.name.toArray⟩) ∧ w.cell? ⟨bb, o + 3, none⟩ = some (.slice ad2 k.kids.length cap2)) := ⟨c0, c1, c2, c3⟩
  clear hM hK hcs hkr c0 c1 c2 c3 hM1 hdec
  go_enter Tryd.func27, Tryd.ntmps27
  go_wp2_with fail
  refine hwh.mono ?_
  rintro e w2 ⟨rfl, hb2⟩
  have hB2 : Below w.heap.size w w2 := hb1.trans (hb2.mono (by simp))
  have hM2 := HM.out.below hB2
  have hbox2 : w2.heap[w.heap.size]? = _ := (hb2.block _ (by simp)).trans hbox
  obtain ⟨⟨x0, x1, x2, x3⟩, _⟩ := var4_of hbox2
  have hk1 := hM2.laid.k1 kd hr0 (by omega)
  have hw := write_any hM2 (kSign kd ++ [32]) (by simp only [List.length_append] at hl ⊢; omega)
  have HN2 : Hid (PrN B b w w2) := PrN.of_below hB2 hle
  have HB2 : Hid (w2.heap[w.heap.size]? = some (.cells #[.int .i64 kd, .int .i64 0, .string ⟨#[]⟩, .slice (some ⟨bb, o, none⟩) 1 cap] 25 (0, 0))) := hbox2
  have hz2 : w.heap.size < w2.heap.size := by have := hb2.size; simp at this; omega
  have hs1 := kSign_len kd
  have hcat := cat_l (kSign kd) [32]
  clear hwh hb1 hb2 hbox hB2 hM2 hbox2
  go_wp2_with fail
  refine hw.mono ?_
  rintro e w3 ⟨rfl, hM3, hN3⟩
  have hN := HN2.out.trans hN3
  have hk3 : KR w3 (fun k => k < B) (.slice ad2 k.kids.length cap2) k.kids := HK.out.keep fun b hp hlt => ⟨hp, Nat.lt_of_lt_of_le hlt hN.bel.size, fun o => hN.bel.cell (by exact hp)⟩
  obtain ⟨⟨y0, y1, y2, y3⟩, _⟩ := var4_of (hN3.cells HB2.out (fun e => by have := HM.out.blt; omega) (by decide))
  have q0 : w3.cell? ⟨Q, 0, none⟩ = some (putV b Q) := by simp [World.cell?, hM3.fn]
  obtain ⟨c0, c1, c2, c3⟩ := HC.out
  rw [← hN.bel.cell (by exact hbB)] at c0 c1 c2 c3
  have hcall := ih _ _ w3.drew (hM3.below (Below.refl _ _).drew) (hk3.under (Below.refl w3.heap.size _).drew (Nat.le_refl _)) (by simp only [List.length_append] at hl ⊢; omega)
  have hent : ∀ args w, (callFunc 27 args).run Tryd.prog w = .ok (.enter 27 args) w := enters_of Tryd.func27 (by kernel_rfl) rfl
  have HN3 : Hid (PrN B b w w3) := hN
  simp only [putV] at q0
  simp only [exV] at hcall
  clear hM3 hN3 hN hk3 hw hcat hs1 x0 x1 x2 x3 hk1
  go_wp2
  go_region_with (refine hcall.mono ?_; rintro e w4 ⟨rfl, hM4, hN4⟩)
  all_goals
    have HM4 : Hid (PrM w4 B b Q (l ++ (kSign kd ++ [32] ++ prE k))) := by rw [← List.append_assoc]; exact hM4
    have HN4 : Hid (PrN B b w w4) := HN3.out.trans ((PrN.of_below (Below.refl _ _).drew (by show B ≤ w3.heap.size; exact Nat.le_trans hle HN3.out.bel.size)).trans hN4)
    clear hM4 hN4
    go_wp2
    exact bodyPost_end (v := .tuple #[]) (by simp [results, Tryd.results27, go_sem]) rfl ⟨rfl, HM4.out, HN4.out⟩

end Go.Proofs.YtibenegbjpoclabDoor
