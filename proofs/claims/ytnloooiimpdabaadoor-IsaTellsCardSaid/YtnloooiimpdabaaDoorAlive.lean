/- The contract of pllaw1.alive: it answers true. -/
import Derived.Test.YtnloooiimpdabaaDoorPut
namespace Go.Proofs.YtnloooiimpdabaaDoor
open Go.RowKit

theorem cl_enc : encW 6 1 2 0 = 12588 := by decide +kernel
theorem cl_wrong : wrongI 6 1 2 0 = 0 := by decide +kernel
theorem cl_dec : decV 12588 = .agg #[.int .i64 6, .int .i64 1, .int .i64 2, .int .i64 0] := by kernel_rfl
theorem cl_decE : decE 12588 = 0 := by decide +kernel
theorem cl_name : infoName 6 = ⟨#[97, 100, 100]⟩ := by decide +kernel
theorem cl_shape : infoShape 6 = 2 := by decide +kernel
theorem cl_low : layLow 5 = -2048 := by decide +kernel
theorem cl_high : layHigh 5 = 2047 := by decide +kernel
theorem cl_find : findFrom ⟨#[97, 100, 100]⟩ 1 28 0 = 4 := by decide +kernel

theorem cl_signed : wrap64 (wrap32 2147483648) = -2147483648 := by decide +kernel
def twoBytes (i : Nat) : Int := if i = 0 then 1 else 2
theorem cl_get : getTo twoBytes 2 0 (2 : Int).toNat = 258 := by decide +kernel
theorem isByte_two : IsByte twoBytes := by intro i; unfold twoBytes; split <;> omega
theorem make2 (w : World) : (Instr.makeSlice 24 (.int .i64 2) (.int .i64 2)).run Tryd.prog w = .ok (.slice (some ⟨w.heap.size, 0, none⟩) 2 2) (w.alloc (.cells #[.int .u8 0, .int .u8 0] 5)) := by kernel_rfl
theorem row_two (w : World) : 0 < 2 → ∃ b off, (some ⟨w.heap.size, 0, none⟩ : Option Addr) = some ⟨b, off, none⟩ ∧ ∀ i, i < 2 → (w.alloc (.cells #[.int .u8 1, .int .u8 2] 5)).cell? ⟨b, off + i, none⟩ = some (.int .u8 (twoBytes i)) := by
  intro _
  refine ⟨w.heap.size, 0, rfl, fun i hi => ?_⟩
  have : i = 0 ∨ i = 1 := by omega
  rcases this with rfl | rfl <;> simp [twoBytes]
theorem row_zero (w : World) : 0 < 2 → ∃ b off, (some ⟨w.heap.size, 0, none⟩ : Option Addr) = some ⟨b, off, none⟩ ∧ ∀ i, i < 2 → (w.alloc (.cells #[.int .u8 0, .int .u8 0] 5)).cell? ⟨b, off + i, none⟩ = some (.int .u8 ((fun _ => 0 : Nat → Int) i)) := by
  intro _
  refine ⟨w.heap.size, 0, rfl, fun i hi => ?_⟩
  have : i = 0 ∨ i = 1 := by omega
  rcases this with rfl | rfl <;> simp

/-- What stays on alive's road: the tables, old memory, and the instruction's box g. -/
structure AliveAt (w : World) (g : Nat) (x : World) : Prop where
  laid : Laid x
  bel : Below w.heap.size w x
  lt : g < x.heap.size
  c0 : x.cell? ⟨g, 0, none⟩ = some (.int .i64 6)
  c1 : x.cell? ⟨g, 1, none⟩ = some (.int .i64 1)
  c2 : x.cell? ⟨g, 2, none⟩ = some (.int .i64 2)
  c3 : x.cell? ⟨g, 3, none⟩ = some (.int .i64 0)

theorem AliveAt.next {w x y : World} {g : Nat} (h : AliveAt w g x) (hb : Below x.heap.size x y) : AliveAt w g y where
  laid := h.laid.below hb h.laid.sz
  bel := h.bel.trans (hb.mono h.bel.size)
  lt := Nat.lt_of_lt_of_le h.lt hb.size
  c0 := by rw [hb.cell h.lt]; exact h.c0
  c1 := by rw [hb.cell h.lt]; exact h.c1
  c2 := by rw [hb.cell h.lt]; exact h.c2
  c3 := by rw [hb.cell h.lt]; exact h.c3

theorem AliveAt.start {w x : World} (hL : Laid x) (hB : Below w.heap.size w x) : AliveAt w x.heap.size (x.alloc (.cells #[.int .i64 6, .int .i64 1, .int .i64 2, .int .i64 0] 23)) where
  laid := hL.below ((Below.refl x.heap.size x).alloc (Nat.le_refl _) _) hL.sz
  bel := hB.alloc hB.size _
  lt := by simp
  c0 := by simp
  c1 := by simp
  c2 := by simp
  c3 := by simp

set_option maxHeartbeats 1000000 in
theorem alive_any (w : World) (hL : Laid w) :
    Calls Tryd.prog 23 #[] w fun e w' => e = .returned (.bool true) ∧ Below w.heap.size w w' := by
  have hs := hL.sz
  go_enter Tryd.func23, Tryd.ntmps23
  go_wp2_with fail
  refine (encode_any 6 1 2 0 _ hL).mono ?_
  rintro e w1 ⟨rfl, hb1⟩
  rw [cl_enc, cl_wrong]
  have hL1 := hL.below hb1 hs
  go_wp2_with fail
  refine (decode_any 12588 _ hL1).mono ?_
  rintro e w2 ⟨rfl, hb2⟩
  rw [cl_dec, cl_decE]
  have A3 := AliveAt.start (hL1.below hb2 hL1.sz) (hb1.trans (hb2.mono hb1.size))
  clear hb1 hb2 hL hL1
  go_wp2_with fail
  refine (info_any 6 _ A3.laid).mono ?_
  rintro e w4 ⟨rfl, hb4⟩
  rw [cl_name, cl_shape]
  have A4 := A3.next hb4
  clear A3 hb4
  go_wp2_with fail
  refine (range_any 5 _ A4.laid).mono ?_
  rintro e w5 ⟨rfl, hb5⟩
  rw [cl_low, cl_high]
  have A5 := A4.next hb5
  clear A4 hb5
  have c1 := A5.c1
  have c2 := A5.c2
  go_wp2_with fail
  refine (find_any _ 1 _ A5.laid).mono ?_
  rintro e w6 ⟨rfl, hb6⟩
  rw [cl_find]
  have A6 := A5.next hb6
  clear A5 hb6 c1 c2
  go_wp2_with fail
  refine (signed_any _ _).mono ?_
  rintro e w' ⟨rfl, rfl⟩
  rw [cl_signed]
  have A7 := A6.next ((Below.refl w'.heap.size w').alloc (Nat.le_refl _) (.cells #[.int .u8 1, .int .u8 2] 5))
  go_wp2_with fail
  refine (get_any _ 2 2 twoBytes 0 2 _ isByte_two (by decide) (row_two w') (by omega) (by omega) (by omega) (by omega)).mono ?_
  rintro e w'' ⟨rfl, rfl⟩
  rw [cl_get]
  clear A6
  generalize w'.alloc (.cells #[.int .u8 1, .int .u8 2] 5) = w7 at *
  have hmk := make2
  have A8 := A7.next ((Below.refl w7.heap.size w7).alloc (Nat.le_refl _) (.cells #[.int .u8 0, .int .u8 0] 5))
  go_wp2_with fail
  refine (put_any _ 2 2 (fun _ => 0) 0 2 7 _ (by decide) (row_zero w7) (by omega) (by omega) (by omega) (by omega)).mono ?_
  rintro e w9 ⟨rfl, hb9, -, -⟩
  have A9 := A8.next hb9
  clear A7 A8 hb9 hmk
  have c0 := A9.c0
  have c1 := A9.c1
  have c2 := A9.c2
  have c3 := A9.c3
  go_wp2_with fail
  refine (wrong_any 6 1 2 0 _ A9.laid).mono ?_
  rintro e w10 ⟨rfl, hb10⟩
  rw [cl_wrong]
  have HB : Hid (Below w.heap.size w w10) := (A9.next hb10).bel
  clear A9 hb10 c0 c1 c2 c3
  go_wp2
  go_ret
  exact ⟨rfl, HB.out⟩

end Go.Proofs.YtnloooiimpdabaaDoor
