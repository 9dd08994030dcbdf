/- The contract of each: what is done with half word by half word. -/
import Derived.Test.YtgadpimknobljaaDoorDsD
namespace Go.Proofs.YtgadpimknobljaaDoor
open Go.RowKit Isa

set_option maxHeartbeats 4000000 in
theorem each_any {w0 w : World} {ad : Option Addr} {len cap : Nat} {bs : Nat → Int} (hD : DL w0) (hR : BR w0 ad len bs) (f : FuncId) (caps : Array Value) (hent : ∀ args w, (callFunc f args).run Tryd.prog w = .ok (.enter f args) w)
    (I : Nat → World → Prop) (hB : ∀ k W, I k W → Below w0.heap.size w0 W) (hG : ∀ k W W', I k W → Below W.heap.size W W' → I k W')
    (hstep : ∀ (k : Nat) (a : Int) (W : World), a = 2 * k → 2 * k < len → I k W → Calls Tryd.prog f (#[.int .i64 a, .agg #[.int .i64 (tV bs len k 0), .int .i64 (tV bs len k 1), .int .i64 (tV bs len k 2), .int .i64 (tV bs len k 3)], .bool (toldB bs len k)] ++ caps) W fun e W' => e = .returned (.tuple #[]) ∧ I (k + 1) W')
    (hI : I 0 w) :
    Calls Tryd.prog 12 #[.slice ad len cap, .func (.func f) #[] caps] w fun e W' => e = .returned (.tuple #[]) ∧ I ((len + 1) / 2) W' := by
  have hf := hR.few
  have HBI := Lib.hid hB
  have HGI := Lib.hid hG
  have HST := Lib.hid hstep
  have HI0 := Lib.hid hI
  have HINS : Hid (∀ W, Below w0.heap.size w0 W → ∀ (k : Nat) (a : Int), a = 2 * k → 2 * k < len → Calls Tryd.prog 27 #[.slice ad len cap, .int .i64 a] W fun e w' => e = insE bs len k ∧ Below W.heap.size W w') := fun W hb k a ha h => ins_any (hD.next hb) (hR.next hb) k a ha h
  clear hB hG hstep hI hD hR
  go_enter Tryd.func12, Tryd.ntmps12
  go_wp2_with fail
  go_loopw [4] (fun i W => ∃ (k : Nat) (a : Int), i = .int .i64 a ∧ Hid (a = 2 * k ∧ 2 * k ≤ len + 1) ∧ (0 ≤ a ∧ a ≤ 1048578) ∧ Hid (I k W)) (fun i _ => len + 2 - (intOf i).toNat)
  case atStart => exact ⟨0, 0, rfl, ⟨rfl, by omega⟩, ⟨by omega, by omega⟩, HI0⟩
  case round =>
    obtain ⟨k, a, rfl, HA, ⟨ha0, ha1⟩, HI⟩ := hrel
    clear HI0
    by_cases hlt : a < (len : Int)
    · have hk : 2 * k < len := by have := HA.out; omega
      have HC := Lib.hid (HINS.out wr (HBI.out k wr HI.out) k a HA.out.1 hk)
      unfold insE at HC
      have HS := Lib.hid (fun W => HST.out k a W HA.out.1 hk)
      generalize toldB bs len k = td at *
      generalize tV bs len k 0 = d0 at *
      generalize tV bs len k 1 = d1 at *
      generalize tV bs len k 2 = d2 at *
      generalize tV bs len k 3 = d3 at *
      go_wp2_with (first | (go_at_call 27; refine HC.out.mono ?_; rintro e W1 ⟨rfl, hb1⟩; have HB1 := Lib.hid hb1; clear hb1) | fail)
      refine (HS.out _ (HGI.out k _ _ (HGI.out k _ _ HI.out HB1.out) (oalloc _ _))).mono ?_
      rintro e W2 ⟨rfl, hi2⟩
      have HI2 := Lib.hid hi2
      have HM : Hid (len + 2 - (a + 2).toNat < len + 2 - a.toNat) := by have := HA.out; unfold Hid; omega
      clear hi2
      go_wp2
      exact ⟨⟨k + 1, a + 2, by go_num, ⟨by have := HA.out.1; omega, by omega⟩, ⟨by omega, by omega⟩, HI2⟩, by simpa [intOf] using HM.out⟩
    · have hk : k = (len + 1) / 2 := by have := HA.out; omega
      subst hk
      go_wp2
      exact bodyPost_end (v := .tuple #[]) (by simp [results, Tryd.results12, go_sem]) rfl ⟨rfl, HI.out⟩

end Go.Proofs.YtgadpimknobljaaDoor
