/- The contract of Print's inner function: numbers and names. -/
import Derived.Test.YtibenegbjpoclabDoorPrD
namespace Go.Proofs.YtibenegbjpoclabDoor
open Go.RowKit

/-- Print's inner function writes the expression's text behind what the builder holds. -/
def PutOK (B b Q : Nat) (e : Ex) : Prop := ∀ (kv : Value) (l : List UInt8) (w : World), PrM w B b Q l → KR w (fun k => k < B) kv e.kids → l.length + (prE e).length ≤ 140737488355328 →
  Calls Tryd.prog 27 #[exV e kv, .pointer (some ⟨b, 0, none⟩), .pointer (some ⟨Q, 0, none⟩)] w fun en w' => en = .returned (.tuple #[]) ∧ PrM w' B b Q (l ++ prE e) ∧ PrN B b w w'

set_option maxHeartbeats 2000000 in
set_option maxRecDepth 100000 in
theorem put_num (B b Q : Nat) (n : Int) : PutOK B b Q (.mk 1 n [] []) := by
  intro kv l w hM hK hl
  obtain ⟨ad, cap, rfl⟩ := hK.shape
  rw [prE_num] at hl ⊢
  simp only [exV, Ex.kind, Ex.n, Ex.name]
  have HM : Hid (PrM w B b Q l) := hM
  have hle := hM.le
  have hb0 : Below w.heap.size w (w.alloc (.cells #[.int .i64 1, .int .i64 n, .string ⟨#[]⟩, .slice ad ([] : List Ex).length cap] 25)) := (Below.refl _ _).alloc (Nat.le_refl _) _
  have htab1 := (hM.below hb0).tab
  clear hM hK
  obtain ⟨u, hu⟩ : ∃ u : Nat, n % 4294967296 = u := ⟨(n % 4294967296).toNat, by omega⟩
  have hu2 : (n % 4294967296).toNat = u := by omega
  rw [hu2] at hl ⊢
  have hu64 : u < 18446744073709551616 := by omega
  go_enter Tryd.func27, Tryd.ntmps27
  go_wp2_with fail
  refine (fmtUint_any u hu64 _ htab1).mono ?_
  rintro e w1 ⟨rfl, hb1⟩
  have hB1 : Below w.heap.size w w1 := hb0.trans (hb1.mono (by simp))
  have hw := write_any (HM.out.below hB1) (Lib.decDigits u) hl
  have HN : Hid (PrN B b w w1) := PrN.of_below hB1 hle
  clear hb0 hb1 hB1 htab1
  go_wp2_with fail
  refine hw.mono ?_
  rintro e w2 ⟨rfl, hM2, hN2⟩
  have HM2 : Hid (PrM w2 B b Q (l ++ Lib.decDigits u)) := hM2
  have HN2 : Hid (PrN B b w w2) := HN.out.trans hN2
  clear hM2 hN2 hw HN
  go_wp2
  exact bodyPost_end (v := .tuple #[]) (by simp [results, Tryd.results27, go_sem]) rfl ⟨rfl, HM2.out, HN2.out⟩

set_option maxHeartbeats 2000000 in
set_option maxRecDepth 100000 in
theorem put_name (B b Q : Nat) (t : List UInt8) : PutOK B b Q (.mk 2 0 t []) := by
  intro kv l w hM hK hl
  obtain ⟨ad, cap, rfl⟩ := hK.shape
  rw [prE_name] at hl ⊢
  simp only [exV, Ex.kind, Ex.n, Ex.name]
  have hle := hM.le
  have hb1 : Below w.heap.size w (w.alloc (.cells #[.int .i64 2, .int .i64 0, .string ⟨t.toArray⟩, .slice ad ([] : List Ex).length cap] 25)) := (Below.refl _ _).alloc (Nat.le_refl _) _
  have hw := write_any (hM.below hb1) t hl
  have HN : Hid (PrN B b w (w.alloc (.cells #[.int .i64 2, .int .i64 0, .string ⟨t.toArray⟩, .slice ad ([] : List Ex).length cap] 25))) := PrN.of_below hb1 hle
  clear hM hK hb1
  go_enter Tryd.func27, Tryd.ntmps27
  go_wp2_with fail
  refine hw.mono ?_
  rintro e w1 ⟨rfl, hM1, hN1⟩
  have HM1 : Hid (PrM w1 B b Q (l ++ t)) := hM1
  have HN1 : Hid (PrN B b w w1) := HN.out.trans hN1
  clear hM1 hN1 hw HN
  go_wp2
  exact bodyPost_end (v := .tuple #[]) (by simp [results, Tryd.results27, go_sem]) rfl ⟨rfl, HM1.out, HN1.out⟩

end Go.Proofs.YtibenegbjpoclabDoor
