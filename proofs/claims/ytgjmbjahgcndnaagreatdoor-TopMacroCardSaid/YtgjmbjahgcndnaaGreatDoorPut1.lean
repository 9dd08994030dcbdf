import Derived.Test.YtgjmbjahgcndnaaGreatDoorRows
import Derived.WalkKit
import Derived.WalkSpells
import Derived.WalkLawsBesides
import Derived.Deep.RegionHeld3
import Derived.BigQuiet
import Derived.Test.YtgjmbjahgcndnaaGreatDoorPut0
namespace Go.Proofs.YtgjmbjahgcndnaaGreatDoor.Isa
open Go.RowKit
theorem qO {a b : Bool} (h : a = b) : Ending.returned (.bool a) = .returned (.bool b) := by rw [h]
theorem qR {k : IntKind} {a b : Int} (h : a = b) : Ending.returned (.int k a) = .returned (.int k b) := by rw [h]
def qP (a lo hi : Int) : Bool := decide (lo <= a /\ a <= hi)
theorem qAC (a lo hi : Int) (w : World) :
  Calls Tryz.prog 77 #[.int .i64 a, .int .i64 lo, .int .i64 hi] w fun e w' => e = .returned (.bool (qP a lo hi)) /\ w' = w := by
 by_cases h1 : lo <= a
 ·by_cases h2 : a <= hi
  ·go_enter Tryz.func77, Tryz.ntmps77
   go_wp2
   go_ret
   exact ⟨qO (by simp [qP]; omega), rfl⟩
  ·go_enter Tryz.func77, Tryz.ntmps77
   go_wp2
   go_ret
   exact ⟨qO (by simp [qP]; omega), rfl⟩
 ·go_enter Tryz.func77, Tryz.ntmps77
  go_wp2
  go_ret
  exact ⟨qO (by simp [qP]; omega), rfl⟩
def qAl (op : Int) : Bool := qP op 1 27
theorem qA8 (a : Int) (w : World) :
  Calls Tryz.prog 79 #[.int .i64 a] w fun e w' => e = .returned (.bool (qAl a)) /\ w' = w := by
 go_enter Tryz.func79, Tryz.ntmps79
 go_wp2_with (go_at_call 77; refine (qAC _ _ _ _).mono ?_; rintro e w' ⟨rfl, rfl⟩)
 go_ret
 exact ⟨rfl, rfl⟩
def layN (s : Int) : Int := [0, 15, 15, 15, 0, 0, 15, 15, 15, 15, 15, 0].getD s.toNat 0
def layM (s : Int) : Int := [0, 0, 15, 0, 0, 0, 0, 0, 0, 15, 15, 0].getD s.toNat 0
def qu (s : Int) : Int := [0, -128, 0, 0, -128, -2048, 0, 0, 0, 0, 0, 0].getD s.toNat 0
def qU (s : Int) : Int := [0, 127, 0, 0, 127, 2047, 0, 255, 255, 0, 0, 255].getD s.toNat 0
def qBB (k : Int) : ByteArray := [⟨#[]⟩, ⟨#[110, 111, 112]⟩, ⟨#[114, 116, 115]⟩, ⟨#[109, 111, 118]⟩, ⟨#[97, 100, 100]⟩, ⟨#[109, 111, 118]⟩, ⟨#[97, 100, 100]⟩, ⟨#[115, 117, 98]⟩, ⟨#[97, 110, 100]⟩, ⟨#[111, 114]⟩, ⟨#[120, 111, 114]⟩, ⟨#[116, 115, 116]⟩, ⟨#[99, 109, 112, 47, 101, 113]⟩, ⟨#[99, 109, 112, 47, 103, 116]⟩, ⟨#[115, 104, 108, 108]⟩, ⟨#[115, 104, 108, 114]⟩, ⟨#[100, 116]⟩, ⟨#[98, 116]⟩, ⟨#[98, 102]⟩, ⟨#[98, 114, 97]⟩, ⟨#[98, 115, 114]⟩, ⟨#[106, 109, 112]⟩, ⟨#[106, 115, 114]⟩, ⟨#[109, 111, 118, 46, 119]⟩, ⟨#[109, 111, 118, 46, 108]⟩, ⟨#[109, 111, 118, 46, 108]⟩, ⟨#[109, 111, 118, 46, 108]⟩, (⟨#[116, 114, 97, 112, 97]⟩ : ByteArray)].getD k.toNat ⟨#[]⟩
def qF (k : Int) : Int := [0, 0, 0, 1, 1, 2, 2, 2, 2, 2, 2, 2, 2, 2, 3, 3, 3, 4, 4, 5, 5, 6, 6, 7, 8, 9, 10, 11].getD k.toNat 0
def qAm (k : Int) : Int := [0, 9, 11, 57344, 28672, 24579, 12300, 12296, 8201, 8203, 8202, 8200, 12288, 12295, 16384, 16385, 16400, 35072, 35584, 40960, 45056, 16427, 16395, 36864, 53248, 8194, 24578, 49920].getD k.toNat 0
def qA6 : Array Value := ((List.range 28).flatMap fun k => [.string (qBB k), .int .i64 (qF k), .int .i64 (qAm k)]).toArray
structure Laid (w : World) : Prop where
 sz : max 1 4 < w.heap.size
 blk : ∃ t fr, w.heap[(1 : Nat)]? = some (.cells qA6 t fr)
 l0 : ∀ s : Int, 0 <= s -> s <= 11 -> w.cell? ⟨4, s.toNat * 4, none⟩ = some (.int .i64 (layN s))
 l1 : ∀ s : Int, 0 <= s -> s <= 11 -> w.cell? ⟨4, s.toNat * 4 + 1, none⟩ = some (.int .i64 (layM s))
 l2 : ∀ s : Int, 0 <= s -> s <= 11 -> w.cell? ⟨4, s.toNat * 4 + 2, none⟩ = some (.int .i64 (qu s))
 l3 : ∀ s : Int, 0 <= s -> s <= 11 -> w.cell? ⟨4, s.toNat * 4 + 3, none⟩ = some (.int .i64 (qU s))
 o0 : ∀ k : Int, 0 <= k -> k <= 27 -> w.cell? ⟨1, k.toNat * 3, none⟩ = some (.string (qBB k))
 o1 : ∀ k : Int, 0 <= k -> k <= 27 -> w.cell? ⟨1, k.toNat * 3 + 1, none⟩ = some (.int .i64 (qF k))
 o2 : ∀ k : Int, 0 <= k -> k <= 27 -> w.cell? ⟨1, k.toNat * 3 + 2, none⟩ = some (.int .i64 (qAm k))
theorem Laid.below {B : Nat} {w w' : World} (h : Laid w) (hb : Below B w w') (hB : max 1 4 < B) : Laid w' where
 sz := Nat.lt_of_lt_of_le h.sz hb.size
 blk := by rw [hb.block 1 (by omega)]; exact h.blk
 l0 s a b := by rw [hb.cell (by show 4 < B; omega)]; exact h.l0 s a b
 l1 s a b := by rw [hb.cell (by show 4 < B; omega)]; exact h.l1 s a b
 l2 s a b := by rw [hb.cell (by show 4 < B; omega)]; exact h.l2 s a b
 l3 s a b := by rw [hb.cell (by show 4 < B; omega)]; exact h.l3 s a b
 o0 s a b := by rw [hb.cell (by show 1 < B; omega)]; exact h.o0 s a b
 o1 s a b := by rw [hb.cell (by show 1 < B; omega)]; exact h.o1 s a b
 o2 s a b := by rw [hb.cell (by show 1 < B; omega)]; exact h.o2 s a b
theorem Laid.szL {w : World} (h : Laid w) : 4 < w.heap.size := by have := h.sz; omega
theorem Laid.szO {w : World} (h : Laid w) : 1 < w.heap.size := by have := h.sz; omega
def layV (s : Int) : Value := .agg #[.int .i64 (layN s), .int .i64 (layM s), .int .i64 (qu s), .int .i64 (qU s)]
theorem qHC {s : Int} (h : ¬ (0 <= s /\ s <= 11)) : layN s = 0 /\ layM s = 0 /\ qu s = 0 /\ qU s = 0 := by
 by_cases h0 : s < 0
 ·have : s.toNat = 0 := by omega
  simp [layN, layM, qu, qU, this]
 ·have : 12 <= s.toNat := by omega
  obtain ⟨k, hk⟩ : ∃ k, s.toNat = k + 12 := ⟨s.toNat - 12, by omega⟩
  simp [layN, layM, qu, qU, hk]
theorem qA1 (s : Int) (w : World) (hL : Laid w) :
  Calls Tryz.prog 78 #[.int .i64 s] w fun e w' => e = .returned (layV s) /\ Below w.heap.size w w' := by
 have hs := hL.szL
 by_cases hc : 0 <= s /\ s <= 11
 ·obtain ⟨h0, h1⟩ := hc
  have hw : qP s 0 11 = true := by simp [qP]; omega
  have c0 := hL.l0 s h0 h1
  have c1 := hL.l1 s h0 h1
  have c2 := hL.l2 s h0 h1
  have c3 := hL.l3 s h0 h1
  go_enter Tryz.func78, Tryz.ntmps78
  go_wp2_with (go_at_call 77; refine (qAC _ _ _ _).mono ?_; rintro e w' ⟨rfl, rfl⟩)
  exact bodyPost_ret (v := layV s) (by simp [results, Tryz.results78, go_sem, layV]) rfl ⟨rfl, (Below.refl _ _).alloc (Nat.le_refl _) _⟩
 ·have hw : qP s 0 11 = false := by simp [qP]; omega
  obtain ⟨e0, e1, e2, e3⟩ := qHC hc
  have ev : layV s = .agg #[.int .i64 0, .int .i64 0, .int .i64 0, .int .i64 0] := by simp [layV, e0, e1, e2, e3]
  rw [ev]
  clear hc ev e0 e1 e2 e3
  go_enter Tryz.func78, Tryz.ntmps78
  go_wp2_with (go_at_call 77; refine (qAC _ _ _ _).mono ?_; rintro e w' ⟨rfl, rfl⟩)
  exact bodyPost_ret (v := .agg #[.int .i64 0, .int .i64 0, .int .i64 0, .int .i64 0]) (by simp [results, Tryz.results78, go_sem]) rfl ⟨rfl, (Below.refl _ _).alloc (Nat.le_refl _) _⟩
theorem qAI (a b c d : Int) (w : World) (h1 : -4096 <= c) (h2 : c <= 4096) (h3 : -4096 <= d) (h4 : d <= 4096) :
  Calls Tryz.prog 103 #[.agg #[.int .i64 a, .int .i64 b, .int .i64 c, .int .i64 d]] w fun e w' => e = .returned (.int .i64 (d - c)) /\ Below w.heap.size w w' := by
 go_enter Tryz.func103, Tryz.ntmps103
 go_wp2
 go_ret
 exact ⟨rfl, (Below.refl _ _).alloc (Nat.le_refl _) _⟩
theorem keep4 {w w1 w2 : World} {B B1 : Nat} {a b c d : Value} (hb : Below B1 w1 w2) (hB : B < B1)
  (h : B < w1.heap.size /\ w1.cell? ⟨B, 0, none⟩ = some a /\ w1.cell? ⟨B, 1, none⟩ = some b /\ w1.cell? ⟨B, 2, none⟩ = some c /\ w1.cell? ⟨B, 3, none⟩ = some d /\ Below B w w1) :
  B < w2.heap.size /\ w2.cell? ⟨B, 0, none⟩ = some a /\ w2.cell? ⟨B, 1, none⟩ = some b /\ w2.cell? ⟨B, 2, none⟩ = some c /\ w2.cell? ⟨B, 3, none⟩ = some d /\ Below B w w2 := by
 obtain ⟨h0, h1, h2, h3, h4, h5⟩ := h
 exact ⟨Nat.lt_of_lt_of_le h0 hb.size, by rw [hb.cell hB]; exact h1, by rw [hb.cell hB]; exact h2, by rw [hb.cell hB]; exact h3, by rw [hb.cell hB]; exact h4, h5.trans (hb.mono (by omega))⟩
def qJc (a b c d : Int) : Int := bits .or .i64 (bits .or .i64 (IntKind.i64.wrap (a * 256)) (IntKind.i64.wrap (b * 16))) (d - c)
theorem qCD (a b c d : Int) (w : World) (h1 : -4096 <= c) (h2 : c <= 4096) (h3 : -4096 <= d) (h4 : d <= 4096) :
  Calls Tryz.prog 80 #[.agg #[.int .i64 a, .int .i64 b, .int .i64 c, .int .i64 d]] w fun e w' => e = .returned (.int .i64 (qJc a b c d)) /\ Below w.heap.size w w' := by
 go_enter Tryz.func80, Tryz.ntmps80
 go_wp2_with fail
 go_region_held3 (fun w' => w.heap.size < w'.heap.size /\ w'.cell? ⟨w.heap.size, 0, none⟩ = some (.int .i64 a) /\ w'.cell? ⟨w.heap.size, 1, none⟩ = some (.int .i64 b) /\ w'.cell? ⟨w.heap.size, 2, none⟩ = some (.int .i64 c) /\ w'.cell? ⟨w.heap.size, 3, none⟩ = some (.int .i64 d) /\ Below w.heap.size w w')
  (first | exact keep4 hb1 (by simp) (by assumption) | (refine ⟨?_, ?_, ?_, ?_, ?_, ((Below.refl _ _).alloc (Nat.le_refl _) _).drew⟩ <;> simp))
  ((go_at_call 103; refine (qAI _ _ _ _ _ ?_ ?_ ?_ ?_).mono ?_; (omega); (omega); (omega); (omega); rintro e w' ⟨rfl, hb1⟩))
 rename_i hH
 have hB := hH.2.2.2.2.2
 clear hH hb1
 go_wp2
 go_ret
 exact ⟨rfl, hB⟩
theorem bcell {W w1 : World} (hb : Below W.heap.size W w1) : (∀ b o, b < W.heap.size -> w1.cell? ⟨b, o, none⟩ = W.cell? ⟨b, o, none⟩) /\ (∀ b o, b < W.heap.size -> w1.frozen? ⟨b, o, none⟩ = W.frozen? ⟨b, o, none⟩) :=
 ⟨fun b o h => hb.cell (p := ⟨b, o, none⟩) h, fun b o h => hb.frozen (p := ⟨b, o, none⟩) h⟩
def qIU (c d x : Int) : Int := if d < bits .and .i64 x (d - c) then wrap64 (bits .and .i64 x (d - c) - (d - c + 1)) else bits .and .i64 x (d - c)
def rdV (a b c d op x : Int) : Value := .agg #[.int .i64 op, .int .i64 (bits .and .i64 (x / 256) a), .int .i64 (bits .and .i64 (x / 16) b), .int .i64 (qIU c d x)]
theorem qDh (a b c d op x : Int) (w : World) (h1 : -4096 <= c) (h2 : c <= 4096) (h3 : -4096 <= d) (h4 : d <= 4096) :
  Calls Tryz.prog 81 #[.agg #[.int .i64 a, .int .i64 b, .int .i64 c, .int .i64 d], .int .i64 op, .int .i64 x] w fun e w' => e = .returned (rdV a b c d op x) /\ Below w.heap.size w w' := by
 by_cases hd : d < bits .and .i64 x (d - c)
 ·have ei : qIU c d x = wrap64 (bits .and .i64 x (d - c) - (d - c + 1)) := by unfold qIU; rw [if_pos hd]
  unfold rdV
  rw [ei]
  go_enter Tryz.func81, Tryz.ntmps81
  go_wp2_with fail
  refine (qAI _ _ _ _ _ h1 h2 h3 h4).mono ?_
  rintro e w1 ⟨rfl, hb1⟩
  obtain ⟨hc, hf⟩ := bcell hb1
  have hz : w.heap.size + 1 < w1.heap.size := by have := hb1.size; simp at this; omega
  have hz0 : w.heap.size < w1.heap.size := by omega
  have hB1 := ((((Below.refl w.heap.size w).alloc (Nat.le_refl _) _).alloc (by simp) _).trans (hb1.mono (by simp; omega)))
  clear hb1
  go_wp2_with fail
  refine (qAI _ _ _ _ _ h1 h2 h3 h4).mono ?_
  rintro e w2 ⟨rfl, hb2⟩
  obtain ⟨hc2, hf2⟩ := bcell hb2
  have hz2 : w.heap.size + 1 < w2.heap.size := by have := hb2.size; omega
  have hz3 : w.heap.size < w2.heap.size := by omega
  have hB2 := hB1.trans (hb2.mono (by omega))
  clear hb2 hB1
  go_wp2
  exact bodyPost_ret (v := .agg #[.int .i64 op, .int .i64 (bits .and .i64 (x / 256) a), .int .i64 (bits .and .i64 (x / 16) b), .int .i64 (wrap64 (bits .and .i64 x (d - c) - (d - c + 1)))]) (by simp [results, Tryz.results81, go_sem, hc, hc2, hz]) rfl ⟨rfl, (((hB2.setCell (by simp) _).setCell (by simp) _).setCell (by simp) _).setCell (by simp) _⟩
 ·have ei : qIU c d x = bits .and .i64 x (d - c) := by unfold qIU; rw [if_neg hd]
  unfold rdV
  rw [ei]
  go_enter Tryz.func81, Tryz.ntmps81
  go_wp2_with fail
  refine (qAI _ _ _ _ _ h1 h2 h3 h4).mono ?_
  rintro e w1 ⟨rfl, hb1⟩
  obtain ⟨hc, hf⟩ := bcell hb1
  have hz : w.heap.size + 1 < w1.heap.size := by have := hb1.size; simp at this; omega
  have hz0 : w.heap.size < w1.heap.size := by omega
  have hB1 := ((((Below.refl w.heap.size w).alloc (Nat.le_refl _) _).alloc (by simp) _).trans (hb1.mono (by simp; omega)))
  clear hb1
  go_wp2
  exact bodyPost_ret (v := .agg #[.int .i64 op, .int .i64 (bits .and .i64 (x / 256) a), .int .i64 (bits .and .i64 (x / 16) b), .int .i64 (bits .and .i64 x (d - c))]) (by simp [results, Tryz.results81, go_sem, hc]) rfl ⟨rfl, (((hB1.setCell (by simp) _).setCell (by simp) _).setCell (by simp) _).setCell (by simp) _⟩
theorem qBC (n : Int) (w : World) :
  Calls Tryz.prog 58 #[.int .i64 n] w fun e w' => e = .returned (.int .i64 (wrap64 (wrap32 n))) /\ w' = w := by
 go_enter Tryz.func58, Tryz.ntmps58
 go_wp2
 go_ret
 exact ⟨rfl, rfl⟩
theorem below_draws {B : Nat} {a w : World} (h : Below B a w) (n : Nat) : Below B a (w.drewN n) := below_drewN h n
def qAc (k : Int) : Int := if qAl k then qF k else 0
def qV (op n m imm : Int) : Int :=
 if qAl op = true then (if qP n 0 (layN (qF op)) = true /\ qP m 0 (layM (qF op)) = true /\ qP imm (qu (qF op)) (qU (qF op)) = true then 0 else 3) else 1
theorem qBp (op n m imm : Int) (w : World) (hL : Laid w) :
  Calls Tryz.prog 204 #[.agg #[.int .i64 op, .int .i64 n, .int .i64 m, .int .i64 imm]] w fun e w' => e = .returned (.int .i64 (qV op n m imm)) /\ Below w.heap.size w w' := by
 have hs := hL.szL
 have hs0 := hL.szO
 cases hk : qAl op
 ·have e1 : qV op n m imm = 1 := by simp [qV, hk]
  rw [e1]
  clear e1
  go_enter Tryz.func204, Tryz.ntmps204
  go_wp2_with (go_at_call 79; refine (qA8 _ _).mono ?_; rintro e w' ⟨rfl, rfl⟩)
  go_ret
  exact ⟨rfl, (Below.refl _ _).alloc (Nat.le_refl _) _⟩
 ·have hk' := hk
  simp [qAl, qP] at hk'
  have c1 := hL.o1 op (by omega) (by omega)
  obtain ⟨hk1, hk2⟩ := hk'
  cases hn : qP n 0 (layN (qF op))
  ·have e1 : qV op n m imm = 3 := by simp [qV, hk, hn]
   rw [e1]
   clear e1
   have H := hL.below ((Below.refl w.heap.size w).alloc (Nat.le_refl _) (.cells #[.int .i64 op, .int .i64 n, .int .i64 m, .int .i64 imm] 71)) hs
   go_enter Tryz.func204, Tryz.ntmps204
   go_wp2_with (go_at_call 79; refine (qA8 _ _).mono ?_; rintro e w' ⟨rfl, rfl⟩)
   refine (qA1 _ _ H).mono ?_
   rintro e w1 ⟨rfl, hb1⟩
   unfold layV
   obtain ⟨hc, hf⟩ := bcell hb1
   have hz0 : w.heap.size < w1.heap.size := by have := hb1.size; simp at this; omega
   have hB1 := ((Below.refl w.heap.size w).alloc (Nat.le_refl _) _).trans (hb1.mono (by simp))
   clear hb1 H
   go_wp2_with (go_at_call 77; refine (qAC _ _ _ _).mono ?_; rintro e w' ⟨rfl, rfl⟩)
   go_ret
   exact ⟨rfl, hB1.alloc hB1.size _⟩
  cases hm : qP m 0 (layM (qF op))
  ·have e1 : qV op n m imm = 3 := by simp [qV, hk, hm]
   rw [e1]
   clear e1
   have H := hL.below ((Below.refl w.heap.size w).alloc (Nat.le_refl _) (.cells #[.int .i64 op, .int .i64 n, .int .i64 m, .int .i64 imm] 71)) hs
   go_enter Tryz.func204, Tryz.ntmps204
   go_wp2_with (go_at_call 79; refine (qA8 _ _).mono ?_; rintro e w' ⟨rfl, rfl⟩)
   refine (qA1 _ _ H).mono ?_
   rintro e w1 ⟨rfl, hb1⟩
   unfold layV
   obtain ⟨hc, hf⟩ := bcell hb1
   have hz0 : w.heap.size < w1.heap.size := by have := hb1.size; simp at this; omega
   have hB1 := ((Below.refl w.heap.size w).alloc (Nat.le_refl _) _).trans (hb1.mono (by simp))
   clear hb1 H
   go_wp2_with (go_at_call 77; refine (qAC _ _ _ _).mono ?_; rintro e w' ⟨rfl, rfl⟩)
   go_ret
   exact ⟨rfl, hB1.alloc hB1.size _⟩
  cases hi : qP imm (qu (qF op)) (qU (qF op))
  ·have e1 : qV op n m imm = 3 := by simp [qV, hk, hi]
   rw [e1]
   clear e1
   have H := hL.below ((Below.refl w.heap.size w).alloc (Nat.le_refl _) (.cells #[.int .i64 op, .int .i64 n, .int .i64 m, .int .i64 imm] 71)) hs
   go_enter Tryz.func204, Tryz.ntmps204
   go_wp2_with (go_at_call 79; refine (qA8 _ _).mono ?_; rintro e w' ⟨rfl, rfl⟩)
   refine (qA1 _ _ H).mono ?_
   rintro e w1 ⟨rfl, hb1⟩
   unfold layV
   obtain ⟨hc, hf⟩ := bcell hb1
   have hz0 : w.heap.size < w1.heap.size := by have := hb1.size; simp at this; omega
   have hB1 := ((Below.refl w.heap.size w).alloc (Nat.le_refl _) _).trans (hb1.mono (by simp))
   clear hb1 H
   go_wp2_with (go_at_call 77; refine (qAC _ _ _ _).mono ?_; rintro e w' ⟨rfl, rfl⟩)
   go_ret
   exact ⟨rfl, hB1.alloc hB1.size _⟩
  ·have e1 : qV op n m imm = 0 := by simp [qV, hk, hn, hm, hi]
   rw [e1]
   clear e1
   have H := hL.below ((Below.refl w.heap.size w).alloc (Nat.le_refl _) (.cells #[.int .i64 op, .int .i64 n, .int .i64 m, .int .i64 imm] 71)) hs
   go_enter Tryz.func204, Tryz.ntmps204
   go_wp2_with (go_at_call 79; refine (qA8 _ _).mono ?_; rintro e w' ⟨rfl, rfl⟩)
   refine (qA1 _ _ H).mono ?_
   rintro e w1 ⟨rfl, hb1⟩
   unfold layV
   obtain ⟨hc, hf⟩ := bcell hb1
   have hz0 : w.heap.size < w1.heap.size := by have := hb1.size; simp at this; omega
   have hB1 := ((Below.refl w.heap.size w).alloc (Nat.le_refl _) _).trans (hb1.mono (by simp))
   clear hb1 H
   go_wp2_with (go_at_call 77; refine (qAC _ _ _ _).mono ?_; rintro e w' ⟨rfl, rfl⟩)
   go_ret
   exact ⟨rfl, hB1.alloc hB1.size _⟩
def encI (op n m imm : Int) : Int :=
 bits .or .i64 (bits .or .i64 (bits .or .i64 (qAm op) (IntKind.i64.wrap (n * 256))) (IntKind.i64.wrap (m * 16))) (bits .and .i64 imm (qU (qF op) - qu (qF op)))
theorem qHQ (s : Int) : -4096 <= qu s /\ qu s <= 4096 /\ -4096 <= qU s /\ qU s <= 4096 := by
 by_cases h : 0 <= s /\ s <= 11
 ·obtain ⟨k, hk⟩ : ∃ k : Nat, s = k := ⟨s.toNat, by omega⟩
  subst hk
  have hk : k < 12 := by omega
  have h' : ∀ j : Fin 12, -4096 <= qu (j.val : Int) /\ qu (j.val : Int) <= 4096 /\ -4096 <= qU (j.val : Int) /\ qU (j.val : Int) <= 4096 := by decide
  exact h' ⟨k, hk⟩
 ·obtain ⟨_, _, e2, e3⟩ := qHC h
  rw [e2, e3]; omega
theorem keepE {w w1 w2 : World} {B C B1 : Nat} {a b c d e : Value} (hb : Below B1 w1 w2) (hB : B < B1) (hC : C < B1)
  (h : B < w1.heap.size /\ C < w1.heap.size /\ w1.cell? ⟨B, 1, none⟩ = some a /\ w1.cell? ⟨B, 2, none⟩ = some b /\ w1.cell? ⟨B, 3, none⟩ = some c /\ w1.cell? ⟨C, 1, none⟩ = some d /\ w1.cell? ⟨C, 2, none⟩ = some e /\ Below B w w1) :
  B < w2.heap.size /\ C < w2.heap.size /\ w2.cell? ⟨B, 1, none⟩ = some a /\ w2.cell? ⟨B, 2, none⟩ = some b /\ w2.cell? ⟨B, 3, none⟩ = some c /\ w2.cell? ⟨C, 1, none⟩ = some d /\ w2.cell? ⟨C, 2, none⟩ = some e /\ Below B w w2 := by
 obtain ⟨h0, h1, h2, h3, h4, h5, h6, h7⟩ := h
 exact ⟨Nat.lt_of_lt_of_le h0 hb.size, Nat.lt_of_lt_of_le h1 hb.size, by rw [hb.cell hB]; exact h2, by rw [hb.cell hB]; exact h3, by rw [hb.cell hB]; exact h4, by rw [hb.cell hC]; exact h5, by rw [hb.cell hC]; exact h6, h7.trans (hb.mono (by omega))⟩
theorem laidE {w w1 : World} {C : Nat} {a b c d e : Value} (hL : Laid w) 
  (h : w.heap.size < w1.heap.size /\ C < w1.heap.size /\ w1.cell? ⟨w.heap.size, 1, none⟩ = some a /\ w1.cell? ⟨w.heap.size, 2, none⟩ = some b /\ w1.cell? ⟨w.heap.size, 3, none⟩ = some c /\ w1.cell? ⟨C, 1, none⟩ = some d /\ w1.cell? ⟨C, 2, none⟩ = some e /\ Below w.heap.size w w1) : Laid w1 :=
 hL.below h.2.2.2.2.2.2.2 hL.sz
theorem startE {w w1 : World} {x a b c d e : Value} (hB : Below w.heap.size w w1) (hz : w.heap.size < w1.heap.size)
  (h1 : w1.cell? ⟨w.heap.size, 1, none⟩ = some a) (h2 : w1.cell? ⟨w.heap.size, 2, none⟩ = some b) (h3 : w1.cell? ⟨w.heap.size, 3, none⟩ = some c) :
  w.heap.size < (w1.alloc (.cells #[x, d, e] 155)).drew.heap.size /\ w1.heap.size < (w1.alloc (.cells #[x, d, e] 155)).drew.heap.size /\ (w1.alloc (.cells #[x, d, e] 155)).drew.cell? ⟨w.heap.size, 1, none⟩ = some a /\ (w1.alloc (.cells #[x, d, e] 155)).drew.cell? ⟨w.heap.size, 2, none⟩ = some b /\ (w1.alloc (.cells #[x, d, e] 155)).drew.cell? ⟨w.heap.size, 3, none⟩ = some c /\ (w1.alloc (.cells #[x, d, e] 155)).drew.cell? ⟨w1.heap.size, 1, none⟩ = some d /\ (w1.alloc (.cells #[x, d, e] 155)).drew.cell? ⟨w1.heap.size, 2, none⟩ = some e /\ Below w.heap.size w (w1.alloc (.cells #[x, d, e] 155)).drew := by
 refine ⟨?_, ?_, ?_, ?_, ?_, ?_, ?_, (hB.alloc hB.size _).drew⟩
 ·simp; omega
 ·simp
 ·simp; rw [World.cell?_alloc_lt _ _ _ (by simpa using hz)]; exact h1
 ·simp; rw [World.cell?_alloc_lt _ _ _ (by simpa using hz)]; exact h2
 ·simp; rw [World.cell?_alloc_lt _ _ _ (by simpa using hz)]; exact h3
 ·simp
 ·simp
theorem qFr (op n m imm : Int) (w : World) (hL : Laid w) (hw : (qV op n m imm != 0) = true) :
  Calls Tryz.prog 228 #[.agg #[.int .i64 op, .int .i64 n, .int .i64 m, .int .i64 imm]] w fun e w' => e = .returned (.tuple #[.int .i64 0, .int .i64 (qV op n m imm)]) /\ Below w.heap.size w w' := by
 have hs := hL.szL
 have H := hL.below ((Below.refl w.heap.size w).alloc (Nat.le_refl _) (.cells #[.int .i64 op, .int .i64 n, .int .i64 m, .int .i64 imm] 71)) hs
 go_enter Tryz.func228, Tryz.ntmps228
 go_wp2_with fail
 refine (qBp _ _ _ _ _ H).mono ?_
 rintro e w1 ⟨rfl, hb1⟩
 have hB1 := ((Below.refl w.heap.size w).alloc (Nat.le_refl _) _).trans (hb1.mono (by simp))
 clear hb1 H
 go_wp2
 go_ret2
 exact ⟨rfl, hB1⟩
theorem qLx (op n m imm : Int) (w : World) (hL : Laid w) (hw : qV op n m imm = 0) (hk1 : 1 <= op) (hk2 : op <= 27) :
  Calls Tryz.prog 228 #[.agg #[.int .i64 op, .int .i64 n, .int .i64 m, .int .i64 imm]] w fun e w' => e = .returned (.tuple #[.int .i64 (encI op n m imm), .int .i64 0]) /\ Below w.heap.size w w' := by
 have hs := hL.szL
 have hs0 := hL.szO
 have H := hL.below ((Below.refl w.heap.size w).alloc (Nat.le_refl _) (.cells #[.int .i64 op, .int .i64 n, .int .i64 m, .int .i64 imm] 71)) hs
 go_enter Tryz.func228, Tryz.ntmps228
 go_wp2_with fail
 refine (qBp _ _ _ _ _ H).mono ?_
 rintro e w1 ⟨rfl, hb1⟩
 have H1 := H.below hb1 (by simp; omega)
 have c0 := H1.o0 op (by omega) (by omega)
 have c1 := H1.o1 op (by omega) (by omega)
 have c2 := H1.o2 op (by omega) (by omega)
 have hs1 := H1.szL
 have hs10 := H1.szO
 obtain ⟨hc, hf⟩ := bcell hb1
 have hz0 : w.heap.size < w1.heap.size := by have := hb1.size; simp at this; omega
 have hB1 := ((Below.refl w.heap.size w).alloc (Nat.le_refl _) _).trans (hb1.mono (by simp))
 have k1 : w1.cell? ⟨w.heap.size, 1, none⟩ = some (.int .i64 n) := by rw [hc _ _ (by simp)]; simp
 have k2 : w1.cell? ⟨w.heap.size, 2, none⟩ = some (.int .i64 m) := by rw [hc _ _ (by simp)]; simp
 have k3 : w1.cell? ⟨w.heap.size, 3, none⟩ = some (.int .i64 imm) := by rw [hc _ _ (by simp)]; simp
 obtain ⟨l1, l2, l3, l4⟩ := qHQ (qF op)
 clear hb1 H H1
 go_wp2_with fail
 go_region_held3 (fun w' => w.heap.size < w'.heap.size /\ w1.heap.size < w'.heap.size /\ w'.cell? ⟨w.heap.size, 1, none⟩ = some (.int .i64 n) /\ w'.cell? ⟨w.heap.size, 2, none⟩ = some (.int .i64 m) /\ w'.cell? ⟨w.heap.size, 3, none⟩ = some (.int .i64 imm) /\ w'.cell? ⟨w1.heap.size, 1, none⟩ = some (.int .i64 (qF op)) /\ w'.cell? ⟨w1.heap.size, 2, none⟩ = some (.int .i64 (qAm op)) /\ Below w.heap.size w w')
  (first | exact keepE hb2 (by simp; omega) (by simp) (by assumption) | exact keepE hb3 (by omega) (by omega) (by assumption) | exact startE hB1 hz0 k1 k2 k3)
  (first | (go_at_call 78; refine (qA1 _ _ ?_).mono ?_; (exact laidE hL (by assumption)); rintro e w' ⟨rfl, hb2⟩; unfold layV) | (go_at_call 103; refine (qAI _ _ _ _ _ l1 l2 l3 l4).mono ?_; rintro e w' ⟨rfl, hb3⟩))
 rename_i hH
 have hB := hH.2.2.2.2.2.2.2
 clear hH hb2 hb3 hB1 k1 k2 k3 hc hf
 go_wp2
 go_ret2
 exact ⟨rfl, hB⟩
theorem qB3 {op n m imm : Int} (h : qV op n m imm = 0) : 1 <= op /\ op <= 27 /\ 0 <= n /\ n <= layN (qF op) /\ 0 <= m /\ m <= layM (qF op) /\ qu (qF op) <= imm /\ imm <= qU (qF op) := by
 unfold qV at h
 by_cases hk : qAl op = true
 ·rw [if_pos hk] at h
  by_cases h3 : qP n 0 (layN (qF op)) = true /\ qP m 0 (layM (qF op)) = true /\ qP imm (qu (qF op)) (qU (qF op)) = true
  ·simp [qAl, qP] at hk h3
   omega
  ·rw [if_neg h3] at h
   simp at h
 ·rw [if_neg hk] at h
  simp at h
def encW (op n m imm : Int) : Int := if qV op n m imm = 0 then encI op n m imm else 0
theorem qIx (op n m imm : Int) (w : World) (hL : Laid w) :
  Calls Tryz.prog 228 #[.agg #[.int .i64 op, .int .i64 n, .int .i64 m, .int .i64 imm]] w fun e w' => e = .returned (.tuple #[.int .i64 (encW op n m imm), .int .i64 (qV op n m imm)]) /\ Below w.heap.size w w' := by
 by_cases h : qV op n m imm = 0
 ·obtain ⟨h1, h2, _⟩ := qB3 h
  have e1 : encW op n m imm = encI op n m imm := by simp [encW, h]
  rw [e1, h]
  exact qLx op n m imm w hL h h1 h2
 ·have e1 : encW op n m imm = 0 := by simp [encW, h]
  rw [e1]
  exact qFr op n m imm w hL (by simpa using h)
end Go.Proofs.YtgjmbjahgcndnaaGreatDoor.Isa
namespace Go.Proofs.YtgjmbjahgcndnaaGreatDoor.Sc
open Go.RowKit
theorem qO {a b : Bool} (h : a = b) : Ending.returned (.bool a) = .returned (.bool b) := by rw [h]
theorem qR {k : IntKind} {a b : Int} (h : a = b) : Ending.returned (.int k a) = .returned (.int k b) := by rw [h]
def qy (c : Int) : Bool := decide (97 <= c /\ c <= 122 \/ 65 <= c /\ c <= 90 \/ c = 95 \/ c = 46)
def qAK (c : Int) : Bool := decide (48 <= c /\ c <= 57)
def qAP (c : Int) : Bool := decide (c = 32 \/ c = 9 \/ c = 13)
def qCP (c : Int) : Bool := qy c || qAK c || decide (c = 47)
def numB (c : Int) : Bool := qAK c || qy c && decide (c ≠ 46)
theorem qAG (c : Int) (w : World) :
  Calls Tryz.prog 99 #[.int .u8 c] w fun e w' => e = .returned (.bool (qAK c)) /\ w' = w := by
 by_cases h1 : 48 <= c
 all_goals by_cases h2 : c <= 57
 all_goals
  go_enter Tryz.func99, Tryz.ntmps99
  go_wp2
  go_ret
  exact ⟨qO (by simp [qAK]; omega), rfl⟩
theorem qw (c : Int) (w : World) :
  Calls Tryz.prog 102 #[.int .u8 c] w fun e w' => e = .returned (.bool (qy c)) /\ w' = w := by
 by_cases h1 : 97 <= c
 all_goals by_cases h2 : c <= 122
 all_goals by_cases h3 : 65 <= c
 all_goals by_cases h4 : c <= 90
 all_goals by_cases h5 : c = 95
 all_goals by_cases h6 : c = 46
 all_goals first
  | (exfalso; omega)
  | (have e5 : (c == 95) = decide (c = 95) := by rfl
     have e6 : (c == 46) = decide (c = 46) := by rfl
     simp only [h5, h6] at e5 e6
     go_enter Tryz.func102, Tryz.ntmps102
     go_wp2
     go_ret
     exact ⟨qO (by first | (simp [qy]; omega) | simp [qy]), rfl⟩)
end Go.Proofs.YtgjmbjahgcndnaaGreatDoor.Sc
namespace Go.Proofs.YtgjmbjahgcndnaaGreatDoor
open Go.RowKit
inductive Goal where
 | val (name : List UInt8) (n : Int)
 | slot (pool : Nat) (i : Nat)
inductive Gen where
 | fill
 | num (name : List UInt8) (n : Int)
 | plain (op n m imm : Int)
 | lead (op n m imm : Int) (to : Goal)
structure It where
 line : Int
 size : Int
 upTo : Int
 align : Int
 gen : Gen
structure Un where
 labels : List (List UInt8 × Nat)
 items : List It
 firsts : Nat -> Nat
def qAf (line op n m imm : Int) : It := ⟨line, 2, 1, 2, .plain op n m imm⟩
def leadI (line op n m imm : Int) (to : Goal) : It := ⟨line, 2, 1, 2, .lead op n m imm to⟩
def qAL : Int -> List It -> List Int
 | p, [] => [p]
 | p, x :: r => p :: qAL (p + (x.size + (x.upTo - p.tmod x.upTo).tmod x.upTo)) r
def qAX (name : List UInt8) : List (List UInt8 × Nat) -> Option Nat
 | [] => none
 | (a, k) :: r => if a = name then some k else qAX name r
def placeU (u : Un) (ps : List Int) (name : List UInt8) (n : Int) : Except Int Int :=
 if name = [] then .error 8
 else match qAX name u.labels with
  | none => .error 6
  | some k => .ok (ps.getD k 0 + n)
def goalU (u : Un) (ps : List Int) : Goal -> Except Int Int
 | .val name n => placeU u ps name n
 | .slot p i => .ok (ps.getD (u.firsts p + i) 0)
def qJO (shape pos to : Int) : Int × Int :=
 if shape = 8 then (to - ((pos + 4) - (pos + 4).tmod 4), 4) else (to - (pos + 4), 2)
def nearU (pos to : Int) : Bool := decide (-128 * 2 <= (qJO 4 pos to).1 /\ (qJO 4 pos to).1 <= 127 * 2)
def farU (u : Un) (ps : List Int) (pos : Int) : Gen -> Bool
 | .lead op _ _ _ to => if Isa.qAc op = 4 then (match goalU u ps to with | .ok p => !(nearU pos p) | .error _ => false) else false
 | _ => false
def qLw (u : Un) (ps : List Int) : Nat -> List It -> List It × Bool
 | _, [] => ([], false)
 | k, x :: r =>
   if x.size < 6 /\ farU u ps (ps.getD k 0) x.gen = true then ({ x with size := 6 } :: (qLw u ps (k + 1) r).1, true)
   else (x :: (qLw u ps (k + 1) r).1, (qLw u ps (k + 1) r).2)
def layU : Nat -> Un -> Option (Except Int (Un × List Int))
 | 0, _ => none
 | f + 1, u =>
   let ps := qAL 0 u.items
   if 8000 < ps.getLastD 0 then some (.error 4)
   else if (qLw u ps 0 u.items).2 = true then layU f { u with items := (qLw u ps 0 u.items).1 }
   else some (.ok (u, ps))
def ledU (op pos to : Int) : Except Int Int :=
 if ((qJO (Isa.qAc op) pos to).1).tmod (qJO (Isa.qAc op) pos to).2 ≠ 0 then .error 11
 else .ok (((qJO (Isa.qAc op) pos to).1).tdiv (qJO (Isa.qAc op) pos to).2)
def half (n : Int) : List UInt8 := [lowB (n / 256), lowB n]
def encU (op n m imm : Int) : Except Int (List UInt8) :=
 if Isa.qV op n m imm = 0 then .ok (half (Isa.encI op n m imm)) else .error (Isa.qV op n m imm)
def longB (op pos to : Int) : Except Int (List UInt8) :=
 match ledU 19 (pos + 2) to with
 | .error e => .error e
 | .ok d =>
   match encU (if op = 17 then 18 else 17) 0 0 1 with
   | .error e => .error e
   | .ok a =>
     match encU 19 0 0 d with
     | .error e => .error e
     | .ok b =>
       match encU 1 0 0 0 with
       | .error e => .error e
       | .ok c => .ok (a ++ (b ++ c))
def putU (size n : Int) : List UInt8 := if size = 1 then [lowB n] else if size = 2 then half n else be4 n
def qDx (u : Un) (ps : List Int) (pos size : Int) (rs : List Re) (x : It) : Except Int (List UInt8 × List Re) :=
 match x.gen with
 | .fill => .ok (List.replicate size.toNat 0, rs)
 | .num name n =>
   if name = [] then .ok (putU x.size n, rs)
   else match placeU u ps name n with
    | .ok p => .ok (List.replicate x.size.toNat 0, rs ++ [⟨pos, x.size, [], wrap32 p⟩])
    | .error _ => .ok (List.replicate x.size.toNat 0, rs ++ [⟨pos, x.size, name, n⟩])
 | .plain op n m imm => (encU op n m imm).map fun b => (b, rs)
 | .lead op n m _ to =>
   match goalU u ps to with
   | .error e => .error e
   | .ok p =>
     if size = 6 then (longB op pos p).map fun b => (b, rs)
     else match ledU op pos p with
      | .error e => .error e
      | .ok d => (encU op n m d).map fun b => (b, rs)
def qBT (u : Un) (ps : List Int) : Nat -> List UInt8 -> List Re -> List It -> Except (Int × Int) (List UInt8 × List Re)
 | _, code, rs, [] => .ok (code, rs)
 | k, code, rs, x :: r =>
   if (ps.getD k 0).tmod x.align ≠ 0 then .error (11, x.line)
   else match qDx u ps (ps.getD k 0) (ps.getD (k + 1) 0 - ps.getD k 0) rs x with
    | .error e => .error (e, x.line)
    | .ok (b, rs') => qBT u ps (k + 1) (code ++ b) rs' r
def qCS (u : Un) (ps : List Int) : List Sy := u.labels.map fun a => ⟨a.1, ps.getD a.2 0⟩
def unitU (f : Nat) (u : Un) : Option (Except (Int × Int) Ob) :=
 match layU f u with
 | none => none
 | some (.error e) => some (.error (e, 0))
 | some (.ok (v, ps)) =>
   match qBT v ps 0 [] [] v.items with
   | .error e => some (.error e)
   | .ok (code, rs) => some (.ok ⟨code, qCS v ps, rs⟩)
theorem qHM : ∀ (l : List It) (p : Int), (qAL p l).length = l.length + 1
 | [], p => rfl
 | x :: r, p => by simp [qAL, qHM r]
end Go.Proofs.YtgjmbjahgcndnaaGreatDoor
