/- The library's FormatInt at base 16. -/
import Derived.Test.YtgadpimknobljaaDoorDhA
namespace Go.Proofs.YtgadpimknobljaaDoor
open Go.RowKit

theorem tz64_16 (w : World) (h : w.cell? ⟨4, 15, none⟩ = some (.int .u8 4)) : Calls Tryd.prog 55 #[.int .u64 16] w fun e w' => e = .returned (.int .i64 4) ∧ w = w' := by
  have hk : (IntKind.u64.wrap (bits BinOp.and IntKind.u64 16 (IntKind.u64.wrap (-16)) * 285870213051353865) / 288230376151711744) = 15 := by decide +kernel
  go_enter Tryd.func55, Tryd.ntmps55
  go_wp2
  go_ret
  exact ⟨rfl, rfl⟩
theorem tz_16 (w : World) (h : w.cell? ⟨4, 15, none⟩ = some (.int .u8 4)) : Calls Tryd.prog 53 #[.int .u64 16] w fun e w' => e = .returned (.int .i64 4) ∧ w = w' := by
  have H := Lib.hid (tz64_16 w h)
  clear h
  go_enter Tryd.func53, Tryd.ntmps53
  go_wp2_with (first | (go_at_call 55; refine H.out.mono ?_; rintro e w' ⟨rfl, rfl⟩) | fail)
  go_ret
  exact ⟨rfl, rfl⟩

/-- A number in sixteens, with its sign. -/
def hexS (n : Int) : List UInt8 := if n < 0 then 45 :: hexL (-n).toNat else hexL n.toNat

theorem tz_below {w : World} (h : w.cell? ⟨4, 15, none⟩ = some (.int .u8 4)) : ∀ W, Below w.heap.size w W → Calls Tryd.prog 53 #[.int .u64 16] W fun e w' => e = .returned (.int .i64 4) ∧ W = w' := fun W hb =>
  tz_16 W ((hb.cell (World.block_lt_of_cell? w _ h)).trans h)

theorem fmtInt16_in (n : Int) (w : World) (h0 : -9223372036854775808 ≤ n) (h1 : n ≤ 9223372036854775807) (h : w.cell? ⟨4, 15, none⟩ = some (.int .u8 4)) :
    Calls Tryd.prog 39 #[.int .i64 n, .int .i64 16] w fun e w' => e = .returned (.string ⟨(hexS n).toArray⟩) ∧ Below w.heap.size w w' := by
  by_cases hn : n < 0
  · have HS : Hid (hexS n = 45 :: hexL (-n).toNat) := by unfold Hid hexS; rw [if_pos hn]
    have hw : IntKind.u64.wrap n = n + 18446744073709551616 := by simp [IntKind.wrap, IntKind.bits, IntKind.signed]; omega
    have HF := Lib.hid (formatBits_neg (-n).toNat (IntKind.u64.wrap n) w (by omega) (by rw [hw]; simp [IntKind.wrap, IntKind.bits, IntKind.signed]; omega) (tz_below h))
    clear h hw
    go_enter Tryd.func39, Tryd.ntmps39
    go_wp2_with (first | (go_at_call 47; refine HF.out.mono ?_; rintro e w1 ⟨rfl, hb⟩; have HB := Lib.hid hb; clear hb) | fail)
    go_ret
    exact ⟨by rw [HS.out]; rfl, HB.out⟩
  · have HS : Hid (hexS n = hexL n.toNat) := by unfold Hid hexS; rw [if_neg hn]
    obtain ⟨m, rfl⟩ := Int.eq_ofNat_of_zero_le (show 0 ≤ n by omega)
    have HF := Lib.hid (formatBits_pos m w (by omega) (tz_below h))
    have hw : IntKind.u64.wrap (m : Int) = m := by simp [IntKind.wrap, IntKind.bits, IntKind.signed]; omega
    clear h
    go_enter Tryd.func39, Tryd.ntmps39
    go_wp2_with (first | (go_at_call 47; refine HF.out.mono ?_; rintro e w1 ⟨rfl, hb⟩; have HB := Lib.hid hb; clear hb) | fail)
    go_ret
    exact ⟨by rw [HS.out]; rfl, HB.out⟩

theorem fmtInt16_any (n : Int) (w : World) (h0 : -9223372036854775808 ≤ n) (h1 : n ≤ 9223372036854775807) (h : w.cell? ⟨4, 15, none⟩ = some (.int .u8 4)) :
    Calls Tryd.prog 29 #[.int .i64 n, .int .i64 16] w fun e w' => e = .returned (.string ⟨(hexS n).toArray⟩) ∧ Below w.heap.size w w' := by
  have HF := Lib.hid (fmtInt16_in n w h0 h1 h)
  clear h
  go_enter Tryd.func29, Tryd.ntmps29
  go_wp2_with (first | (go_at_call 39; refine HF.out.mono ?_; rintro e w1 ⟨rfl, hb⟩; have HB := Lib.hid hb; clear hb) | fail)
  go_ret
  exact ⟨rfl, HB.out⟩

theorem hexL_len (u : Nat) : (hexL u).length ≤ 16 := by
  have := hexGo_len 15 u []
  simpa [hexL] using this
theorem hexS_len (n : Int) : (hexS n).length ≤ 17 := by
  unfold hexS
  split
  · have := hexL_len (-n).toNat; simp; omega
  · have := hexL_len n.toNat; omega

theorem bcat (a b : List UInt8) : (⟨a.toArray⟩ : ByteArray) ++ ⟨b.toArray⟩ = ⟨(a ++ b).toArray⟩ := by
  apply ByteArray.ext
  simp
/-- A place's name. -/
theorem rhex_any (n : Int) (w : World) (h0 : -9223372036854775808 ≤ n) (h1 : n ≤ 9223372036854775807) (h : w.cell? ⟨4, 15, none⟩ = some (.int .u8 4)) :
    Calls Tryd.prog 20 #[.int .i64 n] w fun e w' => e = .returned (.string ⟨(120 :: hexS n).toArray⟩) ∧ Below w.heap.size w w' := by
  have HF := Lib.hid (fmtInt16_any n w h0 h1 h)
  have hl := hexS_len n
  clear h
  generalize hexS n = l at *
  go_enter Tryd.func20, Tryd.ntmps20
  go_wp2_with (first | (go_at_call 29; refine HF.out.mono ?_; rintro e w1 ⟨rfl, hb⟩; have HB := Lib.hid hb; clear hb) | fail)
  have HC := Lib.hid (bcat [120] l)
  go_ret
  exact ⟨congrArg (fun x => Ending.returned (Value.string x)) HC.out, HB.out⟩

end Go.Proofs.YtgadpimknobljaaDoor
