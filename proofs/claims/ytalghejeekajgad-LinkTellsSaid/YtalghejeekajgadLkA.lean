/- The document's own Up, where, and Bases. -/
import Derived.Test.YtalghejeekajgadLkRef
import Derived.Test.YtalghejeekajgadLkPut
namespace Go.Proofs.Ytalghejeekajgad
open Go.RowKit

theorem rup_any (n : Int) (w : World) (h0 : 0 ≤ n) (h1 : n ≤ 4611686018427387904) :
    Calls Try.prog 35 #[.int .i64 n, .int .i64 4] w fun e w' => e = .returned (.int .i64 (up4 n)) ∧ w' = w := by
  have HU := Lib.hid (up4_le n)
  go_enter Try.func35, Try.ntmps35
  go_wp2
  go_loop [0] (fun i => ∃ m : Int, i = .int .i64 m ∧ n ≤ m ∧ Hid (m ≤ up4 n)) (fun i => (up4 n - intOf i).toNat)
  case atStart => exact ⟨n, rfl, Int.le_refl _, HU.out.1⟩
  case round =>
    obtain ⟨m, rfl, hm0, HM⟩ := hrel
    have hm1 : m ≤ n + 4 := by have := HM.out; have := HU.out; omega
    by_cases hz : m % 4 = 0
    · have he : m = up4 n := by have := HM.out; have := HU.out; unfold up4 at *; omega
      have hz2 : m.tmod 4 = 0 := by rw [Int.tmod_eq_emod_of_nonneg (by omega)]; exact hz
      subst he
      go_wp2
      go_ret
      exact ⟨rfl, rfl⟩
    · have hl : m < up4 n := by have := HM.out; have := HU.out; unfold up4 at *; omega
      have hz2 : (m.tmod 4 != 0) = true := by rw [Int.tmod_eq_emod_of_nonneg (by omega)]; simpa using hz
      have HL := Lib.hid hl
      clear hl
      go_wp2
      exact ⟨⟨m + 1, by go_num, by omega, by have := HL.out; unfold Hid; omega⟩, by have := HL.out; simp [intOf]; omega⟩

theorem rwhere_any (nm : List UInt8) (v : Value) (l : List Sy) (w : World) (hv : OSyms w v l) :
    Calls Try.prog 32 #[v, .string ⟨nm.toArray⟩] w fun e w' => e = .returned (.int .i64 (whereL nm l)) ∧ Below w.heap.size w w' := by
  obtain ⟨ad, cap, rfl, ⟨hm, hcp⟩, hc⟩ := hv
  have HC := Lib.hid hc
  unfold maxLen at hm
  clear hc
  go_enter Try.func32, Try.ntmps32
  go_wp2
  go_loopw [9] (fun i wr => ∃ k : Nat, k ≤ l.length ∧ i = .int .i64 k ∧ Hid (Below w.heap.size w wr) ∧ Hid (whereL nm l = whereL nm (l.drop k))) (fun i _ => l.length - (intOf i).toNat)
  case atStart => exact ⟨0, Nat.zero_le _, rfl, Below.refl _ _, rfl⟩
  case round =>
    obtain ⟨k, hk, rfl, HB, HE⟩ := hrel
    by_cases hlt : k < l.length
    · have hk1 : (k : Int) < l.length := by omega
      obtain ⟨b, f, rfl, hbl, hcell⟩ := HC.out (by omega)
      obtain ⟨c0, c1⟩ := hcell k hlt
      rw [← HB.out.cell (by exact hbl)] at c0 c1
      have hbw : b < wr.heap.size := Nat.lt_of_lt_of_le hbl HB.out.size
      have HX := Lib.hid (whereL_at (nm := nm) hlt)
      generalize l[k] = s at *
      have HB2 := Lib.hid (Below.alloc HB.out HB.out.size (.cells #[.string ⟨s.name.toArray⟩, .int .i64 s.pos] 49))
      clear hcell
      cases hq : (s.name == nm)
      · have HN := Lib.hid (show whereL nm l = whereL nm (l.drop (k + 1)) by rw [HE.out, HX.out, if_neg (by simpa using hq)])
        clear HX HE
        go_wp2
        exact ⟨⟨k + 1, by omega, by go_num, HB2, HN⟩, by simp [intOf]; omega⟩
      · have HN := Lib.hid (show whereL nm l = s.pos by rw [HE.out, HX.out, if_pos (by simpa using hq)])
        clear HX HE
        go_wp2
        go_ret
        exact ⟨ret_int HN.out.symm, HB2.out⟩
    · have hk1 : ¬ (k : Int) < l.length := by omega
      have HN := Lib.hid (show whereL nm l = -1 by rw [HE.out, whereL_end (by omega)])
      clear HE
      go_wp2
      go_ret
      exact ⟨ret_int HN.out.symm, HB.out⟩

end Go.Proofs.Ytalghejeekajgad
