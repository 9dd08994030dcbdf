/- The contracts of the program's own sum and number, and of the document's own Sum. -/
import Derived.Test.YtmbjahjkgjkbhaaDoorWrA
namespace Go.Proofs.YtmbjahjkgjkbhaaDoor
open Go.RowKit

/-- The bytes of a slice, one by one. -/
theorem OBytes.at {w : World} {v : Value} {l : List UInt8} (h : OBytes w v l) : ∃ ad cap, v = .slice ad l.length cap ∧ l.length ≤ 9223372036854775807 ∧ (0 < l.length → ∃ b o, ad = some ⟨b, o, none⟩ ∧ ∀ i (h : i < l.length), w.cell? ⟨b, o + i, none⟩ = some (.int .u8 (l[i].toNat : Int))) := by
  obtain ⟨ad, cap, rfl, hm, hc⟩ := h
  refine ⟨ad, cap, rfl, hm, fun h0 => ?_⟩
  obtain ⟨b, o, rfl, _, hcs⟩ := hc h0
  exact ⟨b, o, rfl, hcs⟩

set_option maxHeartbeats 2000000 in
theorem sum_any (l : List UInt8) (v : Value) (w : World) (hv : OBytes w v l) : Calls Tryd.prog 15 #[v] w fun r w' => r = .returned (.int .i64 (sumL l)) ∧ w' = w := by
  obtain ⟨ad, cap, rfl, hm, hc⟩ := hv.at
  have HC := Lib.hid hc
  clear hc hv
  go_enter Tryd.func15, Tryd.ntmps15
  go_wp2
  go_loop [3, 8] (fun n i => ∃ k : Nat, k ≤ l.length ∧ i = .int .i64 k ∧ n = .int .i64 (sumL (l.take k))) (fun _ i => l.length - (intOf i).toNat)
  case atStart => exact ⟨0, Nat.zero_le _, rfl, rfl⟩
  case round =>
    obtain ⟨k, hk, rfl, rfl⟩ := hrel
    by_cases hlt : k < l.length
    · have hk1 : (k : Int) < (l.length : Int) := by omega
      obtain ⟨b, o, rfl, hcs⟩ := HC.out (by omega)
      have hck := hcs k hlt
      have hb := sumL_bd (l.take k)
      have HS := Lib.hid (sumL_take hlt)
      have hcl := (l[k]).toNat_lt
      generalize sumL (l.take k) = s at *
      generalize l[k] = c at *
      obtain ⟨hb0, hb1⟩ := hb
      clear hcs HC
      go_wp2
      exact ⟨⟨k + 1, by omega, by go_num, by rw [HS.out]⟩, by simp [intOf]; omega⟩
    · have hk1 : ¬ (k : Int) < (l.length : Int) := by omega
      have HT : Hid (l.take k = l) := List.take_of_length_le (by omega)
      go_wp2
      go_ret
      exact ⟨by rw [HT.out]; rfl, rfl⟩

set_option maxHeartbeats 2000000 in
theorem rsum_any (l : List UInt8) (v : Value) (w : World) (hv : OBytes w v l) : Calls Tryd.prog 16 #[v] w fun r w' => r = .returned (.int .i64 (sumL l)) ∧ w' = w := by
  obtain ⟨ad, cap, rfl, hm, hc⟩ := hv.at
  have HC := Lib.hid hc
  clear hc hv
  go_enter Tryd.func16, Tryd.ntmps16
  go_wp2
  go_loop [3, 8] (fun n i => ∃ k : Nat, k ≤ l.length ∧ i = .int .i64 k ∧ n = .int .i64 (sumL (l.take k))) (fun _ i => l.length - (intOf i).toNat)
  case atStart => exact ⟨0, Nat.zero_le _, rfl, rfl⟩
  case round =>
    obtain ⟨k, hk, rfl, rfl⟩ := hrel
    by_cases hlt : k < l.length
    · have hk1 : (k : Int) < (l.length : Int) := by omega
      obtain ⟨b, o, rfl, hcs⟩ := HC.out (by omega)
      have hck := hcs k hlt
      have hb := sumL_bd (l.take k)
      have HS := Lib.hid (sumL_take hlt)
      have hcl := (l[k]).toNat_lt
      generalize sumL (l.take k) = s at *
      generalize l[k] = c at *
      obtain ⟨hb0, hb1⟩ := hb
      clear hcs HC
      go_wp2
      exact ⟨⟨k + 1, by omega, by go_num, by rw [HS.out]⟩, by simp [intOf]; omega⟩
    · have hk1 : ¬ (k : Int) < (l.length : Int) := by omega
      have HT : Hid (l.take k = l) := List.take_of_length_le (by omega)
      go_wp2
      go_ret
      exact ⟨by rw [HT.out]; rfl, rfl⟩

/-- A number in so many bytes. -/
def putW (k : Nat) (n : Int) : List UInt8 := if k = 1 then [lowB n] else if k = 2 then be2 n else be4 n
theorem putW_len {k : Nat} (hk : k = 1 ∨ k = 2 ∨ k = 4) (n : Int) : (putW k n).length = k := by rcases hk with rfl | rfl | rfl <;> rfl
theorem putW_cells {k : Nat} (hk : k = 1 ∨ k = 2 ∨ k = 4) (n : Int) {w : World} {g : Nat} (h : ∀ i, i < k → w.cell? ⟨g, i, none⟩ = some (.int .u8 (Oi.putAt (fun _ => 0) 0 k n i))) : ∀ j u, (bcells (putW k n))[j]? = some u → w.cell? ((⟨g, 0, none⟩ : Addr).add j) = some u := by
  intro j u hj
  rw [addr_add, Nat.zero_add]
  have e0 : ∀ m : Int, ((lowB m).toNat : Int) = m % 256 := lowB_nat
  have hjl : j < k := by
    have := (List.getElem?_eq_some_iff.1 hj).1
    rw [bcells_len, putW_len hk] at this
    omega
  rw [h j hjl]
  rcases hk with rfl | rfl | rfl
  · match j, hj with
    | 0, hj =>
      simp only [putW, if_true, bcells, List.map_cons, List.map_nil, List.getElem?_cons_zero, Option.some.injEq] at hj
      rw [← hj, e0]
      simp [Oi.putAt]
  · match j, hj with
    | 0, hj =>
      simp only [putW, be2, if_true, bcells, List.map_cons, List.map_nil, List.getElem?_cons_zero, Option.some.injEq, show ¬ (2 = 1) by decide, if_false] at hj
      rw [← hj, e0]
      simp [Oi.putAt]
    | 1, hj =>
      simp only [putW, be2, if_true, bcells, List.map_cons, List.map_nil, List.getElem?_cons_zero, List.getElem?_cons_succ, Option.some.injEq, show ¬ (2 = 1) by decide, if_false] at hj
      rw [← hj, e0]
      simp [Oi.putAt]
  · match j, hj with
    | 0, hj =>
      simp only [putW, be4, bcells, List.map_cons, List.map_nil, List.getElem?_cons_zero, Option.some.injEq, show ¬ (4 = 1) by decide, show ¬ (4 = 2) by decide, if_false] at hj
      rw [← hj, e0]
      simp [Oi.putAt]
    | 1, hj =>
      simp only [putW, be4, bcells, List.map_cons, List.map_nil, List.getElem?_cons_zero, List.getElem?_cons_succ, Option.some.injEq, show ¬ (4 = 1) by decide, show ¬ (4 = 2) by decide, if_false] at hj
      rw [← hj, e0]
      simp [Oi.putAt]
    | 2, hj =>
      simp only [putW, be4, bcells, List.map_cons, List.map_nil, List.getElem?_cons_zero, List.getElem?_cons_succ, Option.some.injEq, show ¬ (4 = 1) by decide, show ¬ (4 = 2) by decide, if_false] at hj
      rw [← hj, e0]
      simp [Oi.putAt]
    | 3, hj =>
      simp only [putW, be4, bcells, List.map_cons, List.map_nil, List.getElem?_cons_zero, List.getElem?_cons_succ, Option.some.injEq, show ¬ (4 = 1) by decide, show ¬ (4 = 2) by decide, if_false] at hj
      rw [← hj, e0]
      simp [Oi.putAt]

set_option maxHeartbeats 2000000 in
theorem wnumber_any (v : Value) (l : List UInt8) (k : Nat) (hk : k = 1 ∨ k = 2 ∨ k = 4) (n : Int) (w : World) (base : Nat) (ho : Out w base v l) (hl : l.length ≤ 1099511627776) :
    Calls Tryd.prog 14 #[v, .int .i64 (k : Int), .int .i64 n] w fun e w' => ∃ v', e = .returned v' ∧ Out w' base v' (l ++ putW k n) ∧ w.grownBy w' v.ownBlock := by
  have hca := ho.canApp
  have hmk := makeB k (by omega)
  simp only [Nat.mul_one] at hmk
  have hput := Oi.put_any (some ⟨w.heap.size, 0, none⟩) k k (fun _ => 0) 0 k n (w.alloc (.cells (madeCells #[.int .u8 0] k) 5)) (by omega) (fun _ => ⟨w.heap.size, 0, rfl, fun i hi => by
    have e := heap_alloc_new w (.cells (madeCells #[.int .u8 0] k) 5)
    unfold World.cell?
    simp only [e]
    simp [madeCells, hi, Nat.mod_one]⟩) (by omega) (by omega) (by omega) (by omega)
  have HAPP : Hid (∀ w2, Below (w.heap.size + 1) (w.alloc (.cells (madeCells #[.int .u8 0] k) 5)) w2 → (∀ i, i < k → w2.cell? ⟨w.heap.size + 1, i, none⟩ = some (.int .u8 (Oi.putAt (fun _ => 0) 0 k n i))) →
      ∃ v' w', (∀ ty, (Builtin.append_ #[25, 25] ty #[v, .slice (some ⟨w.heap.size + 1, 0, none⟩) k k]).run Tryd.prog w2 = .ok v' w') ∧ Hid (Out w' base v' (l ++ putW k n) ∧ w.grownBy w' v.ownBlock)) := fun w2 hb2 hc2 => by
    have hb2' : Below (w.alloc (.cells (madeCells #[.int .u8 0] k) 5)).heap.size (w.alloc (.cells (madeCells #[.int .u8 0] k) 5)) w2 := by simpa using hb2
    obtain ⟨v', w', h1, h2, h3⟩ := hca w2 ((oalloc w (.cells (madeCells #[.int .u8 0] k) 5)).trans (hb2.mono (Nat.le_succ _))) ⟨w.heap.size + 1, 0, none⟩ k k (putW k n) (putW_len hk n) (by omega) (putW_cells hk n hc2) (by omega)
    exact ⟨v', w', h1, h2, ogtrans (ogtrans (World.grownBy_alloc _ _ _) (ogbelow _ hb2' (Nat.le_refl _))) h3⟩
  clear hca hl ho
  simp only [World.size_alloc] at hput
  clear hk
  go_enter Tryd.func14, Tryd.ntmps14
  go_wp2_with (first | (go_at_call 23; refine hput.mono ?_; rintro e w2 ⟨rfl, hb2, hz2, hc2⟩; obtain ⟨v', w3, happ, HO3⟩ := HAPP.out w2 hb2 hc2; have HA := Lib.hid happ; clear hb2 hz2 hc2 hmk happ) | (at_builtin; refine wpList_app_eq rfl _ _ _ _ rfl _ _ rfl rfl HA.out ?_))
  go_ret
  exact ⟨_, rfl, HO3.out.1, HO3.out.2⟩

end Go.Proofs.YtmbjahjkgjkbhaaDoor
