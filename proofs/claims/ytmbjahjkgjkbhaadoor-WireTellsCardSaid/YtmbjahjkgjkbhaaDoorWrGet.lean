/- The document's own Get. -/
import Derived.Test.YtmbjahjkgjkbhaaDoorWrE
namespace Go.Proofs.YtmbjahjkgjkbhaaDoor.Oi
open Go.RowKit

theorem rGet_any (ad : Option Addr) (len cap : Nat) (bs : Nat → Int) (a size : Int) (w : World) (hbs : IsByte bs) (hlen : len ≤ maxLen)
    (hrow : 0 < len → ∃ b off, ad = some ⟨b, off, none⟩ ∧ ∀ i, i < len → w.cell? ⟨b, off + i, none⟩ = some (.int .u8 (bs i)))
    (hs0 : 0 ≤ size) (hs1 : size ≤ 6) (ha0 : -1000000000 ≤ a) (ha1 : a ≤ 9223372036854775000) :
    Calls Tryd.prog 22 #[.slice ad len cap, .int .i64 a, .int .i64 size] w fun e w' => e = .returned (.int .i64 (getTo bs len a size.toNat)) ∧ w' = w := by
  unfold maxLen at hlen
  go_enter Tryd.func22, Tryd.ntmps22
  go_wp2
  go_loop [7, 10] (fun n i => ∃ k : Nat, k ≤ size.toNat ∧ i = .int .i64 k ∧ n = .int .i64 (getTo bs len a k)) (fun _ i => size.toNat - (intOf i).toNat)
  case atStart => exact ⟨0, Nat.zero_le _, rfl, rfl⟩
  case round =>
    obtain ⟨k, hk, rfl, rfl⟩ := hrel
    by_cases hlt : k < size.toNat
    · have hk1 : (k : Int) < size := by omega
      have hg := getTo_bd hbs len a k
      have hg1 : getTo bs len a k < 281474976710656 := by
        have hk6 : k = 0 ∨ k = 1 ∨ k = 2 ∨ k = 3 ∨ k = 4 ∨ k = 5 := by omega
        have h2 := hg.2
        rcases hk6 with h | h | h | h | h | h <;> (rw [h] at h2 ⊢; simp at h2; omega)
      have hg0 := hg.1
      have HS : Hid (getTo bs len a (k + 1) = getTo bs len a k * 256 + byteAt bs len (a + k)) := rfl
      clear hg
      generalize getTo bs len a k = g at *
      by_cases hp : 0 ≤ a + k ∧ a + k < (len : Int)
      · obtain ⟨hp0, hp1⟩ := hp
        have HB : Hid (byteAt bs len (a + k) = bs (a + k).toNat) := by simp [Hid, byteAt, hp0, hp1]
        obtain ⟨b, off, rfl, hcell⟩ := hrow (by omega)
        have hc := hcell (a + k).toNat (by omega)
        have hb := hbs (a + k).toNat
        obtain ⟨hb0, hb1⟩ := hb
        clear hcell
        go_wp2
        exact ⟨⟨k + 1, by omega, by go_num, by rw [HS.out, HB.out]⟩, by simp [intOf]; omega⟩
      · have HB : Hid (byteAt bs len (a + k) = 0) := by simp [Hid, byteAt]; omega
        by_cases hp0 : 0 ≤ a + k
        · have hp1 : ¬ a + k < (len : Int) := by omega
          go_wp2
          exact ⟨⟨k + 1, by omega, by go_num, by rw [HS.out, HB.out, Int.add_zero]⟩, by simp [intOf]; omega⟩
        · go_wp2
          exact ⟨⟨k + 1, by omega, by go_num, by rw [HS.out, HB.out, Int.add_zero]⟩, by simp [intOf]; omega⟩
    · have hk1 : ¬ (k : Int) < size := by omega
      have hke : k = size.toNat := by omega
      subst hke
      go_wp2
      go_ret
      exact ⟨rfl, rfl⟩

end Go.Proofs.YtmbjahjkgjkbhaaDoor.Oi
namespace Go.Proofs.YtmbjahjkgjkbhaaDoor
open Go.RowKit

theorem rget_any (l : List UInt8) (v : Value) (w : World) (hv : OBytes w v l) (a k : Int) (hk0 : 0 ≤ k) (hk : k ≤ 6) (ha0 : 0 ≤ a) (ha : a ≤ 9223372036854775000) :
    Calls Tryd.prog 22 #[v, .int .i64 a, .int .i64 k] w fun e w' => e = .returned (.int .i64 (gN l a k.toNat)) ∧ w' = w := by
  obtain ⟨ad, cap, rfl, hm, hc⟩ := hv
  refine Oi.rGet_any ad l.length cap (byF l) a k w (byF_byte l) hm (fun h0 => ?_) hk0 hk (by omega) ha
  obtain ⟨b, o, rfl, _, hcs⟩ := hc h0
  refine ⟨b, o, rfl, fun i hi => ?_⟩
  rw [hcs i hi]
  simp [byF, hi]

end Go.Proofs.YtmbjahjkgjkbhaaDoor
