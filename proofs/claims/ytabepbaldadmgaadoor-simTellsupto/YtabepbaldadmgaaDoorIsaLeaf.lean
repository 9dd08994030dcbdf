/- Contracts of the small functions of package isa. -/
import Derived.Test.YtabepbaldadmgaaDoorRows
import Derived.WalkKit
import Derived.WalkSpells
import Derived.WalkLawsBesides
import Derived.Deep.RegionHeld3
import Derived.BigQuiet
namespace Go.Proofs.YtabepbaldadmgaaDoor.Isa
open Go.RowKit

theorem ret_bool {a b : Bool} (h : a = b) : Ending.returned (.bool a) = .returned (.bool b) := by rw [h]
theorem ret_int {k : IntKind} {a b : Int} (h : a = b) : Ending.returned (.int k a) = .returned (.int k b) := by rw [h]

def withinB (a lo hi : Int) : Bool := decide (lo ≤ a ∧ a ≤ hi)
theorem within_any (a lo hi : Int) (w : World) :
    Calls Tryd.prog 52 #[.int .i64 a, .int .i64 lo, .int .i64 hi] w fun e w' => e = .returned (.bool (withinB a lo hi)) ∧ w' = w := by
  by_cases h1 : lo ≤ a
  · by_cases h2 : a ≤ hi
    · go_enter Tryd.func52, Tryd.ntmps52
      go_wp2
      go_ret
      exact ⟨ret_bool (by simp [withinB]; omega), rfl⟩
    · go_enter Tryd.func52, Tryd.ntmps52
      go_wp2
      go_ret
      exact ⟨ret_bool (by simp [withinB]; omega), rfl⟩
  · go_enter Tryd.func52, Tryd.ntmps52
    go_wp2
    go_ret
    exact ⟨ret_bool (by simp [withinB]; omega), rfl⟩

def knownB (op : Int) : Bool := withinB op 1 27

theorem known_any (a : Int) (w : World) :
    Calls Tryd.prog 54 #[.int .i64 a] w fun e w' => e = .returned (.bool (knownB a)) ∧ w' = w := by
  go_enter Tryd.func54, Tryd.ntmps54
  go_wp2_with (go_at_call 52; refine (within_any _ _ _ _).mono ?_; rintro e w' ⟨rfl, rfl⟩)
  go_ret
  exact ⟨rfl, rfl⟩

/-- The columns of the table 'layouts'. -/
def layN (s : Int) : Int := [0, 15, 15, 15, 0, 0, 15, 15, 15, 15, 15, 0].getD s.toNat 0
def layM (s : Int) : Int := [0, 0, 15, 0, 0, 0, 0, 0, 0, 15, 15, 0].getD s.toNat 0
def layLow (s : Int) : Int := [0, -128, 0, 0, -128, -2048, 0, 0, 0, 0, 0, 0].getD s.toNat 0
def layHigh (s : Int) : Int := [0, 127, 0, 0, 127, 2047, 0, 255, 255, 0, 0, 255].getD s.toNat 0

/-- The columns of the table 'operations'. -/
def opName (k : Int) : ByteArray := [⟨#[]⟩, ⟨#[110, 111, 112]⟩, ⟨#[114, 116, 115]⟩, ⟨#[109, 111, 118]⟩, ⟨#[97, 100, 100]⟩, ⟨#[109, 111, 118]⟩, ⟨#[97, 100, 100]⟩, ⟨#[115, 117, 98]⟩, ⟨#[97, 110, 100]⟩, ⟨#[111, 114]⟩, ⟨#[120, 111, 114]⟩, ⟨#[116, 115, 116]⟩, ⟨#[99, 109, 112, 47, 101, 113]⟩, ⟨#[99, 109, 112, 47, 103, 116]⟩, ⟨#[115, 104, 108, 108]⟩, ⟨#[115, 104, 108, 114]⟩, ⟨#[100, 116]⟩, ⟨#[98, 116]⟩, ⟨#[98, 102]⟩, ⟨#[98, 114, 97]⟩, ⟨#[98, 115, 114]⟩, ⟨#[106, 109, 112]⟩, ⟨#[106, 115, 114]⟩, ⟨#[109, 111, 118, 46, 119]⟩, ⟨#[109, 111, 118, 46, 108]⟩, ⟨#[109, 111, 118, 46, 108]⟩, ⟨#[109, 111, 118, 46, 108]⟩, (⟨#[116, 114, 97, 112, 97]⟩ : ByteArray)].getD k.toNat ⟨#[]⟩
def opShape (k : Int) : Int := [0, 0, 0, 1, 1, 2, 2, 2, 2, 2, 2, 2, 2, 2, 3, 3, 3, 4, 4, 5, 5, 6, 6, 7, 8, 9, 10, 11].getD k.toNat 0
def opBits (k : Int) : Int := [0, 9, 11, 57344, 28672, 24579, 12300, 12296, 8201, 8203, 8202, 8200, 12288, 12295, 16384, 16385, 16400, 35072, 35584, 40960, 45056, 16427, 16395, 36864, 53248, 8194, 24578, 49920].getD k.toNat 0

/-- The cells of the table 'operations'. -/
def opCells : Array Value := ((List.range 28).flatMap fun k => [.string (opName k), .int .i64 (opShape k), .int .i64 (opBits k)]).toArray

/-- The two tables lie in memory as the text lays them. -/
structure Laid (w : World) : Prop where
  sz : 1 < w.heap.size
  blk : ∃ t fr, w.heap[0]? = some (.cells opCells t fr)
  l0 : ∀ s : Int, 0 ≤ s → s ≤ 11 → w.cell? ⟨1, s.toNat * 4, none⟩ = some (.int .i64 (layN s))
  l1 : ∀ s : Int, 0 ≤ s → s ≤ 11 → w.cell? ⟨1, s.toNat * 4 + 1, none⟩ = some (.int .i64 (layM s))
  l2 : ∀ s : Int, 0 ≤ s → s ≤ 11 → w.cell? ⟨1, s.toNat * 4 + 2, none⟩ = some (.int .i64 (layLow s))
  l3 : ∀ s : Int, 0 ≤ s → s ≤ 11 → w.cell? ⟨1, s.toNat * 4 + 3, none⟩ = some (.int .i64 (layHigh s))
  o0 : ∀ k : Int, 0 ≤ k → k ≤ 27 → w.cell? ⟨0, k.toNat * 3, none⟩ = some (.string (opName k))
  o1 : ∀ k : Int, 0 ≤ k → k ≤ 27 → w.cell? ⟨0, k.toNat * 3 + 1, none⟩ = some (.int .i64 (opShape k))
  o2 : ∀ k : Int, 0 ≤ k → k ≤ 27 → w.cell? ⟨0, k.toNat * 3 + 2, none⟩ = some (.int .i64 (opBits k))

theorem Laid.below {B : Nat} {w w' : World} (h : Laid w) (hb : Below B w w') (hB : 1 < B) : Laid w' where
  sz := Nat.lt_of_lt_of_le h.sz hb.size
  blk := by rw [hb.block 0 (by omega)]; exact h.blk
  l0 s a b := by rw [hb.cell (by simpa using hB)]; exact h.l0 s a b
  l1 s a b := by rw [hb.cell (by simpa using hB)]; exact h.l1 s a b
  l2 s a b := by rw [hb.cell (by simpa using hB)]; exact h.l2 s a b
  l3 s a b := by rw [hb.cell (by simpa using hB)]; exact h.l3 s a b
  o0 s a b := by rw [hb.cell (by show 0 < B; omega)]; exact h.o0 s a b
  o1 s a b := by rw [hb.cell (by show 0 < B; omega)]; exact h.o1 s a b
  o2 s a b := by rw [hb.cell (by show 0 < B; omega)]; exact h.o2 s a b

/-- A layout as a value. -/
def layV (s : Int) : Value := .agg #[.int .i64 (layN s), .int .i64 (layM s), .int .i64 (layLow s), .int .i64 (layHigh s)]

theorem lay_out {s : Int} (h : ¬ (0 ≤ s ∧ s ≤ 11)) : layN s = 0 ∧ layM s = 0 ∧ layLow s = 0 ∧ layHigh s = 0 := by
  by_cases h0 : s < 0
  · have : s.toNat = 0 := by omega
    simp [layN, layM, layLow, layHigh, this]
  · have : 12 ≤ s.toNat := by omega
    obtain ⟨k, hk⟩ : ∃ k, s.toNat = k + 12 := ⟨s.toNat - 12, by omega⟩
    simp [layN, layM, layLow, layHigh, hk]

theorem layoutOf_any (s : Int) (w : World) (hL : Laid w) :
    Calls Tryd.prog 53 #[.int .i64 s] w fun e w' => e = .returned (layV s) ∧ Below w.heap.size w w' := by
  have hs := hL.sz
  by_cases hc : 0 ≤ s ∧ s ≤ 11
  · obtain ⟨h0, h1⟩ := hc
    have hw : withinB s 0 11 = true := by simp [withinB]; omega
    have c0 := hL.l0 s h0 h1
    have c1 := hL.l1 s h0 h1
    have c2 := hL.l2 s h0 h1
    have c3 := hL.l3 s h0 h1
    go_enter Tryd.func53, Tryd.ntmps53
    go_wp2_with (go_at_call 52; refine (within_any _ _ _ _).mono ?_; rintro e w' ⟨rfl, rfl⟩)
    exact bodyPost_ret (v := layV s) (by simp [results, Tryd.results53, go_sem, layV]) rfl ⟨rfl, (Below.refl _ _).alloc (Nat.le_refl _) _⟩
  · have hw : withinB s 0 11 = false := by simp [withinB]; omega
    obtain ⟨e0, e1, e2, e3⟩ := lay_out hc
    have ev : layV s = .agg #[.int .i64 0, .int .i64 0, .int .i64 0, .int .i64 0] := by simp [layV, e0, e1, e2, e3]
    rw [ev]
    clear hc ev e0 e1 e2 e3
    go_enter Tryd.func53, Tryd.ntmps53
    go_wp2_with (go_at_call 52; refine (within_any _ _ _ _).mono ?_; rintro e w' ⟨rfl, rfl⟩)
    exact bodyPost_ret (v := .agg #[.int .i64 0, .int .i64 0, .int .i64 0, .int .i64 0]) (by simp [results, Tryd.results53, go_sem]) rfl ⟨rfl, (Below.refl _ _).alloc (Nat.le_refl _) _⟩

theorem number_any (a b c d : Int) (w : World) (h1 : -4096 ≤ c) (h2 : c ≤ 4096) (h3 : -4096 ≤ d) (h4 : d ≤ 4096) :
    Calls Tryd.prog 59 #[.agg #[.int .i64 a, .int .i64 b, .int .i64 c, .int .i64 d]] w fun e w' => e = .returned (.int .i64 (d - c)) ∧ Below w.heap.size w w' := by
  go_enter Tryd.func59, Tryd.ntmps59
  go_wp2
  go_ret
  exact ⟨rfl, (Below.refl _ _).alloc (Nat.le_refl _) _⟩

/-- What a box of four cells at B holds stays, behind a callee that writes nothing old. -/
theorem keep4 {w w1 w2 : World} {B B1 : Nat} {a b c d : Value} (hb : Below B1 w1 w2) (hB : B < B1)
    (h : B < w1.heap.size ∧ w1.cell? ⟨B, 0, none⟩ = some a ∧ w1.cell? ⟨B, 1, none⟩ = some b ∧ w1.cell? ⟨B, 2, none⟩ = some c ∧ w1.cell? ⟨B, 3, none⟩ = some d ∧ Below B w w1) :
    B < w2.heap.size ∧ w2.cell? ⟨B, 0, none⟩ = some a ∧ w2.cell? ⟨B, 1, none⟩ = some b ∧ w2.cell? ⟨B, 2, none⟩ = some c ∧ w2.cell? ⟨B, 3, none⟩ = some d ∧ Below B w w2 := by
  obtain ⟨h0, h1, h2, h3, h4, h5⟩ := h
  exact ⟨Nat.lt_of_lt_of_le h0 hb.size, by rw [hb.cell hB]; exact h1, by rw [hb.cell hB]; exact h2, by rw [hb.cell hB]; exact h3, by rw [hb.cell hB]; exact h4, h5.trans (hb.mono (by omega))⟩

/-- All bits that operands fill. -/
def opMask (a b c d : Int) : Int := bits .or .i64 (bits .or .i64 (IntKind.i64.wrap (a * 256)) (IntKind.i64.wrap (b * 16))) (d - c)

theorem operands_any (a b c d : Int) (w : World) (h1 : -4096 ≤ c) (h2 : c ≤ 4096) (h3 : -4096 ≤ d) (h4 : d ≤ 4096) :
    Calls Tryd.prog 55 #[.agg #[.int .i64 a, .int .i64 b, .int .i64 c, .int .i64 d]] w fun e w' => e = .returned (.int .i64 (opMask a b c d)) ∧ Below w.heap.size w w' := by
  go_enter Tryd.func55, Tryd.ntmps55
  go_wp2_with fail
  go_region_held3 (fun w' => w.heap.size < w'.heap.size ∧ w'.cell? ⟨w.heap.size, 0, none⟩ = some (.int .i64 a) ∧ w'.cell? ⟨w.heap.size, 1, none⟩ = some (.int .i64 b) ∧ w'.cell? ⟨w.heap.size, 2, none⟩ = some (.int .i64 c) ∧ w'.cell? ⟨w.heap.size, 3, none⟩ = some (.int .i64 d) ∧ Below w.heap.size w w')
    (first | exact keep4 hb1 (by simp) (by assumption) | (refine ⟨?_, ?_, ?_, ?_, ?_, ((Below.refl _ _).alloc (Nat.le_refl _) _).drew⟩ <;> simp))
    ((go_at_call 59; refine (number_any _ _ _ _ _ ?_ ?_ ?_ ?_).mono ?_; (omega); (omega); (omega); (omega); rintro e w' ⟨rfl, hb1⟩))
  rename_i hH
  have hB := hH.2.2.2.2.2
  clear hH hb1
  go_wp2
  go_ret
  exact ⟨rfl, hB⟩

/-- Behind a callee that writes nothing old every old cell, and every old mark, is as it was. -/
theorem bcell {W w1 : World} (hb : Below W.heap.size W w1) : (∀ b o, b < W.heap.size → w1.cell? ⟨b, o, none⟩ = W.cell? ⟨b, o, none⟩) ∧ (∀ b o, b < W.heap.size → w1.frozen? ⟨b, o, none⟩ = W.frozen? ⟨b, o, none⟩) :=
  ⟨fun b o h => hb.cell (p := ⟨b, o, none⟩) h, fun b o h => hb.frozen (p := ⟨b, o, none⟩) h⟩

/-- The number that an instruction's half word holds. -/
def rdImm (c d x : Int) : Int := if d < bits .and .i64 x (d - c) then wrap64 (bits .and .i64 x (d - c) - (d - c + 1)) else bits .and .i64 x (d - c)
def rdV (a b c d op x : Int) : Value := .agg #[.int .i64 op, .int .i64 (bits .and .i64 (x / 256) a), .int .i64 (bits .and .i64 (x / 16) b), .int .i64 (rdImm c d x)]

theorem read_any (a b c d op x : Int) (w : World) (h1 : -4096 ≤ c) (h2 : c ≤ 4096) (h3 : -4096 ≤ d) (h4 : d ≤ 4096) :
    Calls Tryd.prog 56 #[.agg #[.int .i64 a, .int .i64 b, .int .i64 c, .int .i64 d], .int .i64 op, .int .i64 x] w fun e w' => e = .returned (rdV a b c d op x) ∧ Below w.heap.size w w' := by
  by_cases hd : d < bits .and .i64 x (d - c)
  · have ei : rdImm c d x = wrap64 (bits .and .i64 x (d - c) - (d - c + 1)) := by unfold rdImm; rw [if_pos hd]
    unfold rdV
    rw [ei]
    go_enter Tryd.func56, Tryd.ntmps56
    go_wp2_with fail
    refine (number_any _ _ _ _ _ h1 h2 h3 h4).mono ?_
    rintro e w1 ⟨rfl, hb1⟩
    obtain ⟨hc, hf⟩ := bcell hb1
    have hz : w.heap.size + 1 < w1.heap.size := by have := hb1.size; simp at this; omega
    have hz0 : w.heap.size < w1.heap.size := by omega
    have hB1 := ((((Below.refl w.heap.size w).alloc (Nat.le_refl _) _).alloc (by simp) _).trans (hb1.mono (by simp; omega)))
    clear hb1
    go_wp2_with fail
    refine (number_any _ _ _ _ _ h1 h2 h3 h4).mono ?_
    rintro e w2 ⟨rfl, hb2⟩
    obtain ⟨hc2, hf2⟩ := bcell hb2
    have hz2 : w.heap.size + 1 < w2.heap.size := by have := hb2.size; omega
    have hz3 : w.heap.size < w2.heap.size := by omega
    have hB2 := hB1.trans (hb2.mono (by omega))
    clear hb2 hB1
    go_wp2
    exact bodyPost_ret (v := .agg #[.int .i64 op, .int .i64 (bits .and .i64 (x / 256) a), .int .i64 (bits .and .i64 (x / 16) b), .int .i64 (wrap64 (bits .and .i64 x (d - c) - (d - c + 1)))]) (by simp [results, Tryd.results56, go_sem, hc, hc2, hz]) rfl ⟨rfl, (((hB2.setCell (by simp) _).setCell (by simp) _).setCell (by simp) _).setCell (by simp) _⟩
  · have ei : rdImm c d x = bits .and .i64 x (d - c) := by unfold rdImm; rw [if_neg hd]
    unfold rdV
    rw [ei]
    go_enter Tryd.func56, Tryd.ntmps56
    go_wp2_with fail
    refine (number_any _ _ _ _ _ h1 h2 h3 h4).mono ?_
    rintro e w1 ⟨rfl, hb1⟩
    obtain ⟨hc, hf⟩ := bcell hb1
    have hz : w.heap.size + 1 < w1.heap.size := by have := hb1.size; simp at this; omega
    have hz0 : w.heap.size < w1.heap.size := by omega
    have hB1 := ((((Below.refl w.heap.size w).alloc (Nat.le_refl _) _).alloc (by simp) _).trans (hb1.mono (by simp; omega)))
    clear hb1
    go_wp2
    exact bodyPost_ret (v := .agg #[.int .i64 op, .int .i64 (bits .and .i64 (x / 256) a), .int .i64 (bits .and .i64 (x / 16) b), .int .i64 (bits .and .i64 x (d - c))]) (by simp [results, Tryd.results56, go_sem, hc]) rfl ⟨rfl, (((hB1.setCell (by simp) _).setCell (by simp) _).setCell (by simp) _).setCell (by simp) _⟩

theorem signed_any (n : Int) (w : World) :
    Calls Tryd.prog 51 #[.int .i64 n] w fun e w' => e = .returned (.int .i64 (wrap64 (wrap32 n))) ∧ w' = w := by
  go_enter Tryd.func51, Tryd.ntmps51
  go_wp2
  go_ret
  exact ⟨rfl, rfl⟩

end Go.Proofs.YtabepbaldadmgaaDoor.Isa
