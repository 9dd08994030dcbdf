/- The contract of the document's own bytes of a message. -/
import Derived.Test.YtmbjahjkgjkbhaaDoorWrC
import Derived.Test.YtmbjahjkgjkbhaaDoorWrH
namespace Go.Proofs.YtmbjahjkgjkbhaaDoor
open Go.RowKit

set_option maxHeartbeats 2000000 in
theorem rbytes_bad (m : Ms) (ad : Option Addr) (cap : Nat) (w : World) (hw : wrongM m ≠ 0) :
    Calls Tryd.prog 7 #[msV m (.slice ad m.data.length cap)] w fun e w' => e = .returned (.tuple #[.slice none 0 0, .int .i64 (wrongM m)]) ∧ Below w.heap.size w w' := by
  have HA : Hid (∀ o, Below w.heap.size w (w.alloc o)) := fun o => oalloc w o
  have hcall := fun W => rwrong_any m ad cap W
  have h0 : (wrongM m != 0) = true := bne_iff_ne.2 hw
  generalize wrongM m = x at *
  obtain ⟨k, wk, u, t, e, p, l⟩ := m
  unfold msV at *
  simp only at *
  clear hw
  go_enter Tryd.func7, Tryd.ntmps7
  go_wp2_with (go_at_call 9; refine (hcall _).mono ?_; rintro e w1 ⟨rfl, hb1⟩; have HB1 := Lib.hid (bnext (HA.out _) hb1); clear hb1)
  go_ret2
  exact ⟨rfl, HB1.out⟩

theorem head_cells (m : Ms) (hw : wrongM m = 0) : (#[.int .u8 (m.kind % 256), .int .u8 m.worker, .int .u8 m.unit, .int .u8 (m.turn / 256), .int .u8 (m.turn % 256), .int .u8 m.err, .int .u8 (m.place / 256), .int .u8 (m.place % 256), .int .u8 ((m.data.length : Int) / 16777216), .int .u8 ((m.data.length : Int) / 65536), .int .u8 ((m.data.length : Int) / 256 % 256), .int .u8 ((m.data.length : Int) % 256)] : Array Value) = (bcells (headM m)).toArray := by
  have hR := right_of hw
  have hE := right_err hw
  have hr := hR.2.1
  unfold rangeM at hr
  have hn := hR.2.2.2
  have e0 : ∀ n : Int, ((lowB n).toNat : Int) = n % 256 := lowB_nat
  have f1 : m.worker % 256 = m.worker := by omega
  have f2 : m.unit % 256 = m.unit := by omega
  have f3 : m.turn / 256 % 256 = m.turn / 256 := by omega
  have f4 : m.err % 256 = m.err := by omega
  have f5 : m.place / 256 % 256 = m.place / 256 := by omega
  have f6 : (m.data.length : Int) / 16777216 % 256 = (m.data.length : Int) / 16777216 := by omega
  have f7 : (m.data.length : Int) / 65536 % 256 = (m.data.length : Int) / 65536 := by omega
  simp only [bcells, headM, List.map_cons, List.map_nil, e0, f1, f2, f3, f4, f5, f6, f7]
theorem head_out (m : Ms) (hw : wrongM m = 0) (W : World) (base : Nat) (hb : base ≤ W.heap.size) : Out (W.alloc (.cells #[.int .u8 (m.kind % 256), .int .u8 m.worker, .int .u8 m.unit, .int .u8 (m.turn / 256), .int .u8 (m.turn % 256), .int .u8 m.err, .int .u8 (m.place / 256), .int .u8 (m.place % 256), .int .u8 ((m.data.length : Int) / 16777216), .int .u8 ((m.data.length : Int) / 65536), .int .u8 ((m.data.length : Int) / 256 % 256), .int .u8 ((m.data.length : Int) % 256)] 5)) base (.slice (some ⟨W.heap.size, 0, none⟩) 12 12) (headM m) := by
  rw [head_cells m hw]
  refine ⟨⟨by rw [bcells_len], .inr ⟨W.heap.size, 12, _, rfl, hb, heap_alloc_new W _, by rw [headM_len]; decide, by unfold maxLen; decide, by rw [List.size_toArray, bcells_len, headM_len], ?_⟩⟩, by simp; omega⟩
  show List.take ((headM m).length * 1) (bcells (headM m)) = _
  rw [← bcells_len, List.take_length]

set_option maxHeartbeats 8000000 in
theorem rbytes_good (m : Ms) (ad : Option Addr) (cap : Nat) (w : World) (hD : OBytes w (.slice ad m.data.length cap) m.data) (hw : wrongM m = 0) :
    Calls Tryd.prog 7 #[msV m (.slice ad m.data.length cap)] w fun e w' => ∃ v, e = .returned (.tuple #[v, .int .i64 0]) ∧ Below w.heap.size w w' ∧ Out w' (w.heap.size + 1) v (bytesM m) := by
  have HA : Hid (∀ o, Below w.heap.size w (w.alloc o)) := fun o => oalloc w o
  have hR := right_of hw
  have hE := right_err hw
  have hcall := fun W => rwrong_any m ad cap W
  rw [hw] at hcall
  have HSRC := Lib.hid hD.src
  obtain ⟨hk, hr, hf, hn⟩ := hR
  unfold rangeM at hr
  obtain ⟨⟨a0, a1⟩, ⟨b0, b1⟩, t0, t1⟩ := hr
  obtain ⟨e0, e1, p0, p1⟩ := hE
  have HO0 : Hid (∀ W : World, w.heap.size < W.heap.size → Out (W.alloc (.cells #[.int .u8 (m.kind % 256), .int .u8 m.worker, .int .u8 m.unit, .int .u8 (m.turn / 256), .int .u8 (m.turn % 256), .int .u8 m.err, .int .u8 (m.place / 256), .int .u8 (m.place % 256), .int .u8 ((m.data.length : Int) / 16777216), .int .u8 ((m.data.length : Int) / 65536), .int .u8 ((m.data.length : Int) / 256 % 256), .int .u8 ((m.data.length : Int) % 256)] 5)) (w.heap.size + 1) (.slice (some ⟨W.heap.size, 0, none⟩) 12 12) (headM m)) := fun W h => head_out m hw W _ (by omega)
  have HTX : Hid ((textM m).length ≤ 1048600 ∧ bytesM m = textM m ++ be2 (sumL (textM m))) := ⟨by rw [textM_len]; omega, rfl⟩
  have HAPP : Hid (∀ v1 W1, Out W1 (w.heap.size + 1) v1 (headM m) → Below w.heap.size w W1 → ∃ v' w', (∀ ty, (Builtin.append_ #[25, 25] ty #[v1, .slice ad m.data.length cap]).run Tryd.prog W1 = .ok v' w') ∧ Hid (Out w' (w.heap.size + 1) v' (textM m) ∧ Below w.heap.size w w')) := fun v1 W1 ho1 hb1 => by
    obtain ⟨ad', cap', e, hs⟩ := HSRC.out
    injection e with e1 e2 e3
    subst e1 e3
    obtain ⟨v', w', h1, h2, h3⟩ := app_src ho1 (by rw [headM_len]; omega) ad m.data.length cap m.data rfl (hs.below hb1 (Nat.le_refl _)) (by rw [headM_len]; omega)
    exact ⟨v', w', h1, h2, ho1.grown hb1 h3 (Nat.le_succ _)⟩
  have hsb := sumL_bd (textM m)
  have HAP2 : Hid (∀ v1 W1, Out W1 (w.heap.size + 1) v1 (textM m) → Below w.heap.size w W1 → ∃ v' w', (∀ ty, (Builtin.append_ #[25, 25] ty #[v1, .slice (some ⟨W1.heap.size, 0, none⟩) 2 2]).run Tryd.prog (W1.alloc (.cells #[.int .u8 (sumL (textM m) / 256), .int .u8 (sumL (textM m) % 256)] 5)) = .ok v' w') ∧ Hid (Out w' (w.heap.size + 1) v' (bytesM m) ∧ Below w.heap.size w w')) := fun v1 W1 ho1 hb1 => by
    have hl := HTX.out.1
    have e0 : ∀ n : Int, ((lowB n).toNat : Int) = n % 256 := lowB_nat
    have hblk := heap_alloc_new W1 (.cells #[.int .u8 (sumL (textM m) / 256), .int .u8 (sumL (textM m) % 256)] 5)
    have ho2 := ho1.alloc (.cells #[.int .u8 (sumL (textM m) / 256), .int .u8 (sumL (textM m) % 256)] 5)
    obtain ⟨v', w', h1, h2, h3⟩ := app_bytes ho2 ⟨W1.heap.size, 0, none⟩ 2 2 (be2 (sumL (textM m))) rfl (fun j u hj => by
      have f3 : sumL (textM m) / 256 % 256 = sumL (textM m) / 256 := by omega
      rw [addr_add, Nat.zero_add]
      refine cell_of_block hblk ?_
      simp only [bcells, be2, List.map_cons, List.map_nil, e0, f3] at hj
      simpa using hj) (by omega)
    exact ⟨v', w', h1, by rw [HTX.out.2]; exact h2, ho2.grown (hb1.alloc hb1.size _) h3 (Nat.le_succ _)⟩
  clear hf hw hD hk HSRC
  have HSU : Hid (∀ v W, OBytes W v (textM m) → Calls Tryd.prog 16 #[v] W fun r w' => r = .returned (.int .i64 (sumL (textM m))) ∧ w' = W) := fun v W h => rsum_any _ v W h
  generalize sumL (textM m) = sm at *
  obtain ⟨hs0, hs1⟩ := hsb
  obtain ⟨k, wk, u, t, x, p, l⟩ := m
  unfold msV at *
  simp only at *
  go_enter Tryd.func7, Tryd.ntmps7
  go_wp2_with (first | (go_at_call 9; refine (hcall _).mono ?_; rintro e w1 ⟨rfl, hb1⟩; have hbx := msbox hb1; have c0 : w1.cell? ⟨w.heap.size, 0, none⟩ = some (.int .i64 k) := cell_of_block hbx rfl; have c1 : w1.cell? ⟨w.heap.size, 1, none⟩ = some (.int .i64 wk) := cell_of_block hbx rfl; have c2 : w1.cell? ⟨w.heap.size, 2, none⟩ = some (.int .i64 u) := cell_of_block hbx rfl; have c3 : w1.cell? ⟨w.heap.size, 3, none⟩ = some (.int .i64 t) := cell_of_block hbx rfl; have c4 : w1.cell? ⟨w.heap.size, 4, none⟩ = some (.int .i64 x) := cell_of_block hbx rfl; have c5 : w1.cell? ⟨w.heap.size, 5, none⟩ = some (.int .i64 p) := cell_of_block hbx rfl; have c6 : w1.cell? ⟨w.heap.size, 6, none⟩ = some (.slice ad l.length cap) := cell_of_block hbx rfl; have hlt : w.heap.size < w1.heap.size := (Array.getElem?_eq_some_iff.1 hbx).1; have HB1 : Hid (∀ o, Below w.heap.size w (w1.alloc o)) := fun o => (bnext (HA.out _) hb1).alloc (Nat.le_of_lt hlt) o; obtain ⟨v3, w3, happ, HO3⟩ := HAPP.out _ _ (HO0.out w1 hlt) (HB1.out _); have HAP := Lib.hid happ; have HS3 := Lib.hid (HSU.out v3 w3 (HO3.out.1.bytes (by have := HTX.out.1; unfold maxLen; omega))); obtain ⟨v4, w4, happ4, HO4⟩ := HAP2.out _ _ HO3.out.1 HO3.out.2; have HAQ := Lib.hid happ4; clear hbx hb1 happ happ4 HO3 HAPP HAP2 HO0 HSU) | (go_at_call 16; refine HS3.out.mono ?_; rintro e w7 ⟨rfl, rfl⟩) | (at_builtin; refine wpList_app_eq rfl _ _ _ _ rfl _ _ rfl rfl HAP.out ?_; clear HAP) | (at_builtin; refine wpList_app_eq rfl _ _ _ _ rfl _ _ rfl rfl HAQ.out ?_))
  go_ret2
  exact ⟨_, rfl, HO4.out.2, HO4.out.1⟩

end Go.Proofs.YtmbjahjkgjkbhaaDoor
