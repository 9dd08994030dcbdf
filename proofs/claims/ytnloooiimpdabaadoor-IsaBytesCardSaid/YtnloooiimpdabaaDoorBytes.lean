/- The walk of pllaw1.IsaBytes. -/
import Derived.Test.YtnloooiimpdabaaDoorAlive
import Derived.Deep.QuietTactic
namespace Go.Proofs.YtnloooiimpdabaaDoor
open Go.RowKit

/-- What is put is got: the plain mathematics. -/
theorem byteAt_put (bs : Nat → Int) (len : Nat) (a size n : Int) (k : Nat) (ha : 0 ≤ a) (hk : (k : Int) < size) (hfit : a + size ≤ len) :
    byteAt (putAt bs a size n) len (a + k) = n / 2 ^ (8 * (size - 1 - k)).toNat % 256 := by
  unfold byteAt
  rw [if_pos (by omega)]
  unfold putAt
  have e : (((a + (k : Int)).toNat : Nat) : Int) - a = k := by omega
  rw [e, if_pos (by omega)]

theorem got1 (bs : Nat → Int) (len : Nat) (a n : Int) (ha : 0 ≤ a) (hfit : a + 1 ≤ len) (h0 : 0 ≤ n) (h1 : n < 256) : getTo (putAt bs a 1 n) len a (1 : Int).toNat = n := by
  have b0 := byteAt_put bs len a 1 n 0 ha (by omega) hfit
  show getTo (putAt bs a 1 n) len a (0 + 1) = n
  rw [getTo, b0]
  simp [getTo]
  omega

theorem got2 (bs : Nat → Int) (len : Nat) (a n : Int) (ha : 0 ≤ a) (hfit : a + 2 ≤ len) (h0 : 0 ≤ n) (h1 : n < 65536) : getTo (putAt bs a 2 n) len a (2 : Int).toNat = n := by
  have b0 := byteAt_put bs len a 2 n 0 ha (by omega) hfit
  have b1 := byteAt_put bs len a 2 n 1 ha (by omega) hfit
  show getTo (putAt bs a 2 n) len a (0 + 1 + 1) = n
  rw [getTo, getTo, b0, b1]
  simp [getTo]
  omega

theorem got4 (bs : Nat → Int) (len : Nat) (a n : Int) (ha : 0 ≤ a) (hfit : a + 4 ≤ len) (h0 : 0 ≤ n) (h1 : n < 4294967296) : getTo (putAt bs a 4 n) len a (4 : Int).toNat = n := by
  have b0 := byteAt_put bs len a 4 n 0 ha (by omega) hfit
  have b1 := byteAt_put bs len a 4 n 1 ha (by omega) hfit
  have b2 := byteAt_put bs len a 4 n 2 ha (by omega) hfit
  have b3 := byteAt_put bs len a 4 n 3 ha (by omega) hfit
  show getTo (putAt bs a 4 n) len a (0 + 1 + 1 + 1 + 1) = n
  rw [getTo, getTo, getTo, getTo, b0, b1, b2, b3]
  simp [getTo]
  omega

theorem isByte_put {bs : Nat → Int} (h : IsByte bs) (a size n : Int) : IsByte (putAt bs a size n) := by
  intro i
  unfold putAt
  split
  · omega
  · exact h i

/-- Where nothing is asked the law answers true. -/
theorem bytes_none (ad : Option Addr) (len cap : Nat) (a size n other : Int) (w : World) (hL : Laid w)
    (h1 : (size != 1) = true) (h2 : (size != 2) = true) (h4 : (size != 4) = true) :
    Calls Tryd.prog 5 #[.slice ad len cap, .int .i64 a, .int .i64 size, .int .i64 n, .int .i64 other] w fun e w' => e = .returned (.bool true) ∧ Below w.heap.size w w' := by
  go_enter Tryd.func5, Tryd.ntmps5
  go_wp2_with fail
  refine (alive_any _ hL).mono ?_
  rintro e w1 ⟨rfl, hb1⟩
  go_wp2
  go_ret
  exact ⟨rfl, hb1⟩

set_option maxHeartbeats 2000000 in
theorem bytes_out (ad : Option Addr) (len cap : Nat) (a size n other : Int) (w : World) (hL : Laid w) (hlen : len ≤ 140737488351232) (hs : size = 1 ∨ size = 2 ∨ size = 4)
    (hout : a < 0 ∨ (len : Int) - size < a ∨ n < 0 ∨ 2 ^ (8 * size).toNat ≤ n) :
    Calls Tryd.prog 5 #[.slice ad len cap, .int .i64 a, .int .i64 size, .int .i64 n, .int .i64 other] w fun e w' => e = .returned (.bool true) ∧ Below w.heap.size w w' := by
  by_cases ha : a < 0
  · rcases hs with rfl | rfl | rfl
    all_goals
      go_enter Tryd.func5, Tryd.ntmps5
      go_wp2_with fail
      refine (alive_any _ hL).mono ?_
      rintro e w1 ⟨rfl, hb1⟩
      go_wp2
      go_ret
      exact ⟨rfl, hb1⟩
  by_cases hf : (len : Int) - size < a
  · rcases hs with rfl | rfl | rfl
    all_goals
      go_enter Tryd.func5, Tryd.ntmps5
      go_wp2_with fail
      refine (alive_any _ hL).mono ?_
      rintro e w1 ⟨rfl, hb1⟩
      go_wp2
      go_ret
      exact ⟨rfl, hb1⟩
  by_cases hn : n < 0
  · rcases hs with rfl | rfl | rfl
    all_goals
      go_enter Tryd.func5, Tryd.ntmps5
      go_wp2_with fail
      refine (alive_any _ hL).mono ?_
      rintro e w1 ⟨rfl, hb1⟩
      go_wp2
      go_ret
      exact ⟨rfl, hb1⟩
  have hb : 2 ^ (8 * size).toNat ≤ n := by omega
  clear hout
  rcases hs with rfl | rfl | rfl
  all_goals
    simp at hb
    go_enter Tryd.func5, Tryd.ntmps5
    go_wp2_with fail
    refine (alive_any _ hL).mono ?_
    rintro e w1 ⟨rfl, hb1⟩
    go_wp2
    go_ret
    exact ⟨rfl, hb1⟩


set_option maxHeartbeats 2000000 in
theorem bytes_in1 (ad : Option Addr) (len cap : Nat) (bs : Nat → Int) (a n other : Int) (w : World) (hL : Laid w) (hlen : len ≤ 140737488351232) (hbs : IsByte bs)
    (hrow : 0 < len → ∃ b off, ad = some ⟨b, off, none⟩ ∧ ∀ i, i < len → w.cell? ⟨b, off + i, none⟩ = some (.int .u8 (bs i)))
    (ha : 0 ≤ a) (hfit : a ≤ (len : Int) - 1) (hn0 : 0 ≤ n) (hn1 : n < 256) :
    Calls Tryd.prog 5 #[.slice ad len cap, .int .i64 a, .int .i64 1, .int .i64 n, .int .i64 other] w fun e w' => e = .returned (.bool true) ∧ Below w.heap.size w w' := by
  obtain ⟨b, off, rfl, hcell⟩ := hrow (by omega)
  have hlt : b < w.heap.size := World.block_lt_of_cell? w _ (hcell 0 (by omega))
  go_enter Tryd.func5, Tryd.ntmps5
  go_wp2_with fail
  refine (alive_any _ hL).mono ?_
  rintro e w1 ⟨rfl, hb1⟩
  have hcell1 : ∀ i, i < len → w1.cell? ⟨b, off + i, none⟩ = some (.int .u8 (bs i)) := fun i hi => by rw [hb1.cell hlt]; exact hcell i hi
  have HR : Hid (0 < len → ∃ b' off', (some ⟨b, off, none⟩ : Option Addr) = some ⟨b', off', none⟩ ∧ ∀ i, i < len → w1.cell? ⟨b', off' + i, none⟩ = some (.int .u8 (bs i))) := fun _ => ⟨b, off, rfl, hcell1⟩
  have hlt1 : b < w1.heap.size := Nat.lt_of_lt_of_le hlt hb1.size
  clear hcell hrow hL
  have HC1 : Hid (∀ i, i < len → w1.cell? ⟨b, off + i, none⟩ = some (.int .u8 (bs i))) := hcell1
  clear hcell1
  go_wp2_with fail
  refine (put_any (some ⟨b, off, none⟩) len cap bs a 1 n w1 (by omega) HR.out (by omega) (by omega) (by omega) (by omega)).mono ?_
  rintro e w2 ⟨rfl, hb2, hz2, hput⟩
  have HP : Hid (∀ i, i < len → w2.cell? ⟨w1.heap.size, i, none⟩ = some (.int .u8 (putAt bs a 1 n i))) := hput
  have HO : Hid (∀ i, i < len → w2.cell? ⟨b, off + i, none⟩ = some (.int .u8 (bs i))) := fun i hi => by rw [hb2.cell hlt1]; exact HC1.out i hi
  have HQ : Hid (0 < len → ∃ b' off', (some ⟨w1.heap.size, 0, none⟩ : Option Addr) = some ⟨b', off', none⟩ ∧ ∀ i, i < len → w2.cell? ⟨b', off' + i, none⟩ = some (.int .u8 (putAt bs a 1 n i))) := fun _ => ⟨_, 0, rfl, fun i hi => by rw [Nat.zero_add]; exact hput i hi⟩
  have HB : Hid (Below w.heap.size w w2) := hb1.trans (hb2.mono hb1.size)
  clear hput hb1 hb2 HC1 HR
  have hgot := got1 bs len a n ha (by omega) hn0 (by omega)
  have HG : Hid (getTo (putAt bs a 1 n) len a (1 : Int).toNat = n) := hgot
  clear hgot
  go_wp2_with fail
  refine (get_any (some ⟨w1.heap.size, 0, none⟩) len len (putAt bs a 1 n) a 1 w2 (isByte_put hbs a 1 n) (by unfold maxLen; omega) HQ.out (by omega) (by omega) (by omega) (by omega)).mono ?_
  rintro e w3 ⟨rfl, rfl⟩
  rw [HG.out]
  clear HG HQ
  by_cases o1 : other < 0
  · go_wp2
    go_quiet (fail)
    go_wp2
    go_ret
    exact ⟨rfl, below_draws HB.out _⟩
  have hd1 : decide (other < 0) = false := by simpa using o1
  have o1' : 0 ≤ other := by omega
  by_cases o2 : (len : Int) ≤ other
  · go_wp2
    go_quiet (fail)
    go_wp2
    go_ret
    exact ⟨rfl, below_draws HB.out _⟩
  have hd2 : decide ((len : Int) ≤ other) = false := by simpa using o2
  have o2' : other < (len : Int) := by omega
  by_cases o3 : a ≤ other
  · by_cases o4 : other - a < 1
    · go_wp2
      go_quiet (fail)
      go_wp2
      go_ret
      exact ⟨rfl, below_draws HB.out _⟩
    · have hd4 : decide (other - a < 1) = false := by simpa using o4
      have hp := HP.out other.toNat (by omega)
      have ho := HO.out other.toNat (by omega)
      have he : putAt bs a 1 n other.toNat = bs other.toNat := by unfold putAt; rw [if_neg (by omega)]
      rw [he] at hp
      clear he
      go_wp2
      go_quiet (fail)
      go_wp2
      go_ret
      exact ⟨ret_bool (by simp), below_draws HB.out _⟩
  · have hd3 : decide (a ≤ other) = false := by simpa using o3
    have hp := HP.out other.toNat (by omega)
    have ho := HO.out other.toNat (by omega)
    have he : putAt bs a 1 n other.toNat = bs other.toNat := by unfold putAt; rw [if_neg (by omega)]
    rw [he] at hp
    clear he
    go_wp2
    go_quiet (fail)
    go_wp2
    go_ret
    exact ⟨ret_bool (by simp), below_draws HB.out _⟩

end Go.Proofs.YtnloooiimpdabaaDoor
