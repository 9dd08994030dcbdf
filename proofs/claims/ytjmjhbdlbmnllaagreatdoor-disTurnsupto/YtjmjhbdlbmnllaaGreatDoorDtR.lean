/- pllaw8.alive (DisTurns). -/
import Derived.Test.YtjmjhbdlbmnllaaGreatDoorPut20
import Derived.Test.YtjmjhbdlbmnllaaGreatDoorUaP
import Derived.Handy
namespace Go.Proofs.YtjmjhbdlbmnllaaGreatDoor
open Go.RowKit

def aliveB : Nat → Int := fun i => ([0, 9, 137, 253] : List Int).getD i 0
def aliveT : List UInt8 := [0x78, 0x30, 0x3a, 0x0a, 0x6e, 0x6f, 0x70, 0x0a, 0x62, 0x74, 0x20, 0x78, 0x30, 0x0a]
def aliveM : List UInt8 := [0x6d, 0x6f, 0x76, 0x20, 0x23, 0x2d, 0x31, 0x2c, 0x72, 0x32]
theorem aliveB_byte : Isa.IsByte aliveB := by
  intro i
  unfold aliveB
  match i with
  | 0 | 1 | 2 | 3 => decide
  | i + 4 => simp
theorem alive_text : Di.textTo aliveB 4 2 = aliveT := by decide +kernel
theorem alive_to : Di.toI 19 3 10 = 20 ∧ Di.toB 19 = true := by decide +kernel
theorem alive_line : Di.lineL 3 2 0 (-1) 0 = aliveM := by decide +kernel

set_option maxRecDepth 100000 in
set_option maxHeartbeats 4000000 in
theorem alive8 (w : World) (hD : Di.DL w) : Calls Tryz.prog 4 #[] w fun e w' => e = .returned (.bool true) ∧ Below w.heap.size w w' := by
  have HD := Lib.hid hD
  clear hD
  go_enter Tryz.func4, Tryz.ntmps4
  go_wp2_with fail
  refine (Di.to_any 19 0 0 3 10 _ HD.out.laid (by omega) (by omega) (by omega) (by omega)).mono ?_
  rintro e w1 ⟨rfl, hb1⟩
  rw [alive_to.1, alive_to.2]
  have HB1 := Lib.hid hb1
  clear hb1
  go_wp2_with fail
  have hbA := oalloc w1 (.cells #[.int .u8 0, .int .u8 9, .int .u8 137, .int .u8 253] 5)
  have hB2 : Below w.heap.size w (w1.alloc (.cells #[.int .u8 0, .int .u8 9, .int .u8 137, .int .u8 253] 5)) := HB1.out.trans (hbA.mono HB1.out.size)
  have hR : Di.BR (w1.alloc (.cells #[.int .u8 0, .int .u8 9, .int .u8 137, .int .u8 253] 5)) (some ⟨w1.heap.size, 0, none⟩) 4 aliveB := by
    refine ⟨aliveB_byte, by omega, fun _ => ⟨_, _, rfl, by go_size, fun i hi => ?_⟩⟩
    have hq : (w1.alloc (.cells #[.int .u8 0, .int .u8 9, .int .u8 137, .int .u8 253] 5)).heap[w1.heap.size]? = some (.cells #[.int .u8 0, .int .u8 9, .int .u8 137, .int .u8 253] 5 (0, 0)) := new_at _ _ rfl
    rw [Nat.zero_add]
    match i, hi with
    | 0, _ => exact blk_cell hq rfl
    | 1, _ => exact blk_cell hq rfl
    | 2, _ => exact blk_cell hq rfl
    | 3, _ => exact blk_cell hq rfl
  refine (Di.text_any (HD.out.next hB2) hR).mono ?_
  rintro e w2 ⟨rfl, hb2⟩
  rw [show Di.textTo aliveB 4 ((4 + 1) / 2) = aliveT from alive_text]
  have HB2 := Lib.hid (hB2.trans (hb2.mono hB2.size))
  clear hb2 hB2 hbA hR HB1
  go_wp2_with fail
  refine (Di.line_any 3 2 0 (-1) 0 _ (HD.out.next HB2.out) (by omega) (by omega) (by omega) (by omega) (by omega) (by omega) (by omega) (by omega)).mono ?_
  rintro e w3 ⟨rfl, hb3⟩
  rw [alive_line]
  have HB3 := Lib.hid (HB2.out.trans (hb3.mono HB2.out.size))
  clear hb3 HB2
  go_wp2_with fail
  go_ret
  exact ⟨rfl, HB3.out⟩

end Go.Proofs.YtjmjhbdlbmnllaaGreatDoor
