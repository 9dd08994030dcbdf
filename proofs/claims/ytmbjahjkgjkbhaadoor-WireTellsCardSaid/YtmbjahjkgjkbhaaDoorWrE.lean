/- What the table of widths reads as; the contracts of the program's own readHead and message. -/
import Derived.Test.YtmbjahjkgjkbhaaDoorWrD
namespace Go.Proofs.YtmbjahjkgjkbhaaDoor
open Go.RowKit

/-- The table of widths. -/
structure WL (w : World) : Prop where
  c0 : w.cell? ⟨0, 0, none⟩ = some (.int .i64 1)
  c1 : w.cell? ⟨0, 1, none⟩ = some (.int .i64 1)
  c2 : w.cell? ⟨0, 2, none⟩ = some (.int .i64 1)
  c3 : w.cell? ⟨0, 3, none⟩ = some (.int .i64 2)
  c4 : w.cell? ⟨0, 4, none⟩ = some (.int .i64 1)
  c5 : w.cell? ⟨0, 5, none⟩ = some (.int .i64 2)
  c6 : w.cell? ⟨0, 6, none⟩ = some (.int .i64 4)
  sz : 0 < w.heap.size
theorem WL.below {B : Nat} {w w' : World} (h : WL w) (hb : Below B w w') (hB : w.heap.size ≤ B) : WL w' where
  c0 := (hb.cell (p := ⟨0, 0, none⟩) (Nat.lt_of_lt_of_le h.sz hB)).trans h.c0
  c1 := (hb.cell (p := ⟨0, 1, none⟩) (Nat.lt_of_lt_of_le h.sz hB)).trans h.c1
  c2 := (hb.cell (p := ⟨0, 2, none⟩) (Nat.lt_of_lt_of_le h.sz hB)).trans h.c2
  c3 := (hb.cell (p := ⟨0, 3, none⟩) (Nat.lt_of_lt_of_le h.sz hB)).trans h.c3
  c4 := (hb.cell (p := ⟨0, 4, none⟩) (Nat.lt_of_lt_of_le h.sz hB)).trans h.c4
  c5 := (hb.cell (p := ⟨0, 5, none⟩) (Nat.lt_of_lt_of_le h.sz hB)).trans h.c5
  c6 := (hb.cell (p := ⟨0, 6, none⟩) (Nat.lt_of_lt_of_le h.sz hB)).trans h.c6
  sz := Nat.lt_of_lt_of_le h.sz hb.size

/-- The number that Get reads. -/
def gN (l : List UInt8) (a : Int) (k : Nat) : Int := Oi.getTo (byF l) l.length a k
theorem byteAt_n (l : List UInt8) (k : Nat) : Oi.byteAt (byF l) l.length (k : Int) = nB l k := by
  unfold Oi.byteAt nB
  split
  · simp
  · rename_i h
    unfold byF
    rw [List.getD_eq_getElem?_getD, List.getElem?_eq_none (by omega)]
    rfl
theorem gN1 (l : List UInt8) (a : Nat) : gN l a 1 = nB l a := by
  have h0 := byteAt_n l a
  simp only [gN, Oi.getTo]
  simp only [Int.natCast_zero, Int.add_zero]
  omega
theorem gN2 (l : List UInt8) (a : Nat) : gN l a 2 = n2 l a := by
  have h0 := byteAt_n l a
  have h1 := byteAt_n l (a + 1)
  simp only [Int.natCast_add, Int.natCast_one] at h1
  simp only [gN, n2, Oi.getTo]
  simp only [Int.natCast_zero, Int.add_zero, Int.natCast_one]
  omega
theorem gN4 (l : List UInt8) (a : Nat) : gN l a 4 = n4 l a := by
  have h0 := byteAt_n l a
  have h1 := byteAt_n l (a + 1)
  have h2 := byteAt_n l (a + 2)
  have h3 := byteAt_n l (a + 3)
  simp only [Int.natCast_add, Int.natCast_one] at h1 h2 h3
  simp only [gN, n4, Oi.getTo]
  simp only [Int.natCast_zero, Int.add_zero, Int.natCast_one]
  simp only [show ((1 + 1 : Nat) : Int) = 2 from rfl, show ((1 + 1 + 1 : Nat) : Int) = 3 from rfl] at *
  rw [h0, h1]
  have h2 : Oi.byteAt (byF l) l.length (↑a + 2) = nB l (a + 2) := h2
  have h3 : Oi.byteAt (byF l) l.length (↑a + 3) = nB l (a + 3) := h3
  rw [h2, h3]
  omega
theorem wget_any (l : List UInt8) (v : Value) (w : World) (hv : OBytes w v l) (a k : Int) (hk0 : 0 ≤ k) (hk : k ≤ 6) (ha0 : 0 ≤ a) (ha : a ≤ 9223372036854775000) :
    Calls Tryd.prog 20 #[v, .int .i64 a, .int .i64 k] w fun e w' => e = .returned (.int .i64 (gN l a k.toNat)) ∧ w' = w := by
  obtain ⟨ad, cap, rfl, hm, hc⟩ := hv
  refine Oi.get_any ad l.length cap (byF l) a k w (byF_byte l) hm (fun h0 => ?_) hk0 hk (by omega) ha
  obtain ⟨b, o, rfl, _, hcs⟩ := hc h0
  refine ⟨b, o, rfl, fun i hi => ?_⟩
  rw [hcs i hi]
  simp [byF, hi]

/-- The head as one value, and in its box. -/
def hdC (l : List UInt8) : Array Value := #[.int .i64 (nB l 0), .int .i64 (nB l 1), .int .i64 (nB l 2), .int .i64 (n2 l 3), .int .i64 (nB l 5), .int .i64 (n2 l 6), .int .i64 (n4 l 8)]

/-- The head when k numbers are read, and where the next one stands. -/
def hdK (l : List UInt8) : Nat → Array Value
  | 0 => #[.int .i64 0, .int .i64 0, .int .i64 0, .int .i64 0, .int .i64 0, .int .i64 0, .int .i64 0]
  | 1 => #[.int .i64 (nB l 0), .int .i64 0, .int .i64 0, .int .i64 0, .int .i64 0, .int .i64 0, .int .i64 0]
  | 2 => #[.int .i64 (nB l 0), .int .i64 (nB l 1), .int .i64 0, .int .i64 0, .int .i64 0, .int .i64 0, .int .i64 0]
  | 3 => #[.int .i64 (nB l 0), .int .i64 (nB l 1), .int .i64 (nB l 2), .int .i64 0, .int .i64 0, .int .i64 0, .int .i64 0]
  | 4 => #[.int .i64 (nB l 0), .int .i64 (nB l 1), .int .i64 (nB l 2), .int .i64 (n2 l 3), .int .i64 0, .int .i64 0, .int .i64 0]
  | 5 => #[.int .i64 (nB l 0), .int .i64 (nB l 1), .int .i64 (nB l 2), .int .i64 (n2 l 3), .int .i64 (nB l 5), .int .i64 0, .int .i64 0]
  | 6 => #[.int .i64 (nB l 0), .int .i64 (nB l 1), .int .i64 (nB l 2), .int .i64 (n2 l 3), .int .i64 (nB l 5), .int .i64 (n2 l 6), .int .i64 0]
  | _ => #[.int .i64 (nB l 0), .int .i64 (nB l 1), .int .i64 (nB l 2), .int .i64 (n2 l 3), .int .i64 (nB l 5), .int .i64 (n2 l 6), .int .i64 (n4 l 8)]
def atK : Nat → Int
  | 0 => 0
  | 1 => 1
  | 2 => 2
  | 3 => 3
  | 4 => 5
  | 5 => 6
  | 6 => 8
  | _ => 12
def szK : Nat → Int
  | 0 => 1
  | 1 => 1
  | 2 => 1
  | 3 => 2
  | 4 => 1
  | 5 => 2
  | _ => 4
def widA : Array Value := #[.int .i64 1, .int .i64 1, .int .i64 1, .int .i64 2, .int .i64 1, .int .i64 2, .int .i64 4]
theorem widxAll (w : World) : ((List.range 7).map fun k : Nat => (Instr.index 37 (.agg widA) (.int .i64 (k : Int))).run Tryd.prog w) = (List.range 7).map fun k => .ok (.int .i64 (szK k)) w := by kernel_rfl
theorem widA_eq : (#[.int .i64 1, .int .i64 1, .int .i64 1, .int .i64 2, .int .i64 1, .int .i64 2, .int .i64 4] : Array Value) = widA := rfl
theorem widx (k : Nat) (hk : k < 7) (w : World) : (Instr.index 37 (.agg widA) (.int .i64 (k : Int))).run Tryd.prog w = .ok (.int .i64 (szK k)) w := by
  have := congrArg (fun l => l[k]?) (widxAll w)
  simp [hk] at this
  exact this

set_option maxHeartbeats 4000000 in
theorem readHead_any (l : List UInt8) (v : Value) (w : World) (hv : OBytes w v l) (hW : WL w) :
    Calls Tryd.prog 19 #[v] w fun e w' => e = .returned (.agg (hdC l)) ∧ Below w.heap.size w w' := by
  have HA : Hid (∀ o o', Below w.heap.size w ((w.alloc o).alloc o')) := fun o o' => (oalloc w o).alloc (by simp) o'
  have HV : Hid (∀ o o', OBytes ((w.alloc o).alloc o') v l) := fun o o' => hv.below ((oalloc w o).alloc (by simp) o') (Nat.le_refl _)
  have HW : Hid (∀ o o', WL ((w.alloc o).alloc o')) := fun o o' => hW.below ((oalloc w o).alloc (by simp) o') (Nat.le_refl _)
  have HG : Hid (∀ (o o' : Obj) (a k : Int), 0 ≤ k → k ≤ 6 → 0 ≤ a → a ≤ 9223372036854775000 → Calls Tryd.prog 20 #[v, .int .i64 a, .int .i64 k] ((w.alloc o).alloc o') fun e w' => e = .returned (.int .i64 (gN l a k.toNat)) ∧ w' = (w.alloc o).alloc o') := fun o o' a k h0 h1 h2 h3 => wget_any l v _ (HV.out o o') a k h0 h1 h2 h3
  have G0 : Hid (gN l 0 (1 : Int).toNat = nB l 0) := gN1 l 0
  have G1 : Hid (gN l 1 (1 : Int).toNat = nB l 1) := gN1 l 1
  have G2 : Hid (gN l 2 (1 : Int).toNat = nB l 2) := gN1 l 2
  have G3 : Hid (gN l 3 (2 : Int).toNat = n2 l 3) := gN2 l 3
  have G4 : Hid (gN l 5 (1 : Int).toNat = nB l 5) := gN1 l 5
  have G5 : Hid (gN l 6 (2 : Int).toNat = n2 l 6) := gN2 l 6
  have G6 : Hid (gN l 8 (4 : Int).toNat = n4 l 8) := gN4 l 8
  clear hv hW HV
  unfold hdC
  go_enter Tryd.func19, Tryd.ntmps19
  have hw := HW.out (.cells #[.int .i64 0, .int .i64 0, .int .i64 0, .int .i64 0, .int .i64 0, .int .i64 0, .int .i64 0] 38) (.cells #[.int .i64 0, .int .i64 0, .int .i64 0, .int .i64 0, .int .i64 0, .int .i64 0, .int .i64 0] 38)
  obtain ⟨c0, c1, c2, c3, c4, c5, c6, hsz⟩ := hw
  go_wp2
  clear c0 c1 c2 c3 c4 c5 c6 hsz HW
  rw [widA_eq]
  go_loopw [4, 8] (fun a i wr => ∃ k : Nat, k ≤ 7 ∧ i = .int .i64 k ∧ a = .int .i64 (atK k) ∧ wr = (w.alloc (.cells #[.int .i64 0, .int .i64 0, .int .i64 0, .int .i64 0, .int .i64 0, .int .i64 0, .int .i64 0] 38)).alloc (.cells (hdK l k) 38)) (fun _ i _ => 7 - (intOf i).toNat)
  case atStart => exact ⟨0, by omega, rfl, rfl, rfl⟩
  case round =>
    obtain ⟨k, hk, rfl, rfl, rfl⟩ := hrel
    have hk7 : k = 0 ∨ k = 1 ∨ k = 2 ∨ k = 3 ∨ k = 4 ∨ k = 5 ∨ k = 6 ∨ k = 7 := by omega
    clear hk
    rcases hk7 with rfl | rfl | rfl | rfl | rfl | rfl | rfl | rfl
    · have hg := fun o o' => HG.out o o' 0 1 (by decide) (by decide) (by decide) (by decide)
      rw [G0.out] at hg
      have hix : ∀ W, (Instr.index 37 (.agg widA) (.int .i64 0)).run Tryd.prog W = .ok (.int .i64 1) W := fun W => widx 0 (by decide) W
      clear HG
      simp only [hdK, atK]
      go_wp2_with (go_at_call 20; refine (hg _ _).mono ?_; rintro e w1 ⟨rfl, rfl⟩)
      exact ⟨⟨1, by omega, rfl, rfl, rfl⟩, by simp [intOf]⟩
    · have hg := fun o o' => HG.out o o' 1 1 (by decide) (by decide) (by decide) (by decide)
      rw [G1.out] at hg
      have hix : ∀ W, (Instr.index 37 (.agg widA) (.int .i64 1)).run Tryd.prog W = .ok (.int .i64 1) W := fun W => widx 1 (by decide) W
      clear HG
      simp only [hdK, atK]
      go_wp2_with (go_at_call 20; refine (hg _ _).mono ?_; rintro e w1 ⟨rfl, rfl⟩)
      exact ⟨⟨2, by omega, rfl, rfl, rfl⟩, by simp [intOf]⟩
    · have hg := fun o o' => HG.out o o' 2 1 (by decide) (by decide) (by decide) (by decide)
      rw [G2.out] at hg
      have hix : ∀ W, (Instr.index 37 (.agg widA) (.int .i64 2)).run Tryd.prog W = .ok (.int .i64 1) W := fun W => widx 2 (by decide) W
      clear HG
      simp only [hdK, atK]
      go_wp2_with (go_at_call 20; refine (hg _ _).mono ?_; rintro e w1 ⟨rfl, rfl⟩)
      exact ⟨⟨3, by omega, rfl, rfl, rfl⟩, by simp [intOf]⟩
    · have hg := fun o o' => HG.out o o' 3 2 (by decide) (by decide) (by decide) (by decide)
      rw [G3.out] at hg
      have hix : ∀ W, (Instr.index 37 (.agg widA) (.int .i64 3)).run Tryd.prog W = .ok (.int .i64 2) W := fun W => widx 3 (by decide) W
      clear HG
      simp only [hdK, atK]
      go_wp2_with (go_at_call 20; refine (hg _ _).mono ?_; rintro e w1 ⟨rfl, rfl⟩)
      exact ⟨⟨4, by omega, rfl, rfl, rfl⟩, by simp [intOf]⟩
    · have hg := fun o o' => HG.out o o' 5 1 (by decide) (by decide) (by decide) (by decide)
      rw [G4.out] at hg
      have hix : ∀ W, (Instr.index 37 (.agg widA) (.int .i64 4)).run Tryd.prog W = .ok (.int .i64 1) W := fun W => widx 4 (by decide) W
      clear HG
      simp only [hdK, atK]
      go_wp2_with (go_at_call 20; refine (hg _ _).mono ?_; rintro e w1 ⟨rfl, rfl⟩)
      exact ⟨⟨5, by omega, rfl, rfl, rfl⟩, by simp [intOf]⟩
    · have hg := fun o o' => HG.out o o' 6 2 (by decide) (by decide) (by decide) (by decide)
      rw [G5.out] at hg
      have hix : ∀ W, (Instr.index 37 (.agg widA) (.int .i64 5)).run Tryd.prog W = .ok (.int .i64 2) W := fun W => widx 5 (by decide) W
      clear HG
      simp only [hdK, atK]
      go_wp2_with (go_at_call 20; refine (hg _ _).mono ?_; rintro e w1 ⟨rfl, rfl⟩)
      exact ⟨⟨6, by omega, rfl, rfl, rfl⟩, by simp [intOf]⟩
    · have hg := fun o o' => HG.out o o' 8 4 (by decide) (by decide) (by decide) (by decide)
      rw [G6.out] at hg
      have hix : ∀ W, (Instr.index 37 (.agg widA) (.int .i64 6)).run Tryd.prog W = .ok (.int .i64 4) W := fun W => widx 6 (by decide) W
      clear HG
      simp only [hdK, atK]
      go_wp2_with (go_at_call 20; refine (hg _ _).mono ?_; rintro e w1 ⟨rfl, rfl⟩)
      exact ⟨⟨7, by omega, rfl, rfl, rfl⟩, by simp [intOf]⟩
    · simp only [hdK, atK]
      clear HG
      go_wp2
      refine bodyPost_ret (v := .agg (hdC l)) (by simp [results, Tryd.results19, go_sem, hdC]) rfl ⟨rfl, ?_⟩
      exact HA.out _ _

set_option maxHeartbeats 2000000 in
theorem message_any (a0 a1 a2 a3 a4 a5 a6 : Int) (ad : Option Addr) (n cap : Nat) (w : World) :
    Calls Tryd.prog 21 #[.agg #[.int .i64 a0, .int .i64 a1, .int .i64 a2, .int .i64 a3, .int .i64 a4, .int .i64 a5, .int .i64 a6], .slice ad n cap] w fun e w' => e = .returned (.agg #[.int .i64 a0, .int .i64 a1, .int .i64 a2, .int .i64 a3, .int .i64 a4, .int .i64 a5, .slice ad n cap]) ∧ Below w.heap.size w w' := by
  have HA : Hid (∀ o o', Below w.heap.size w ((w.alloc o).alloc o')) := fun o o' => (oalloc w o).alloc (by simp) o'
  go_enter Tryd.func21, Tryd.ntmps21
  go_wp2
  refine bodyPost_ret (v := .agg #[.int .i64 a0, .int .i64 a1, .int .i64 a2, .int .i64 a3, .int .i64 a4, .int .i64 a5, .slice ad n cap]) (by simp [results, Tryd.results21, go_sem]) rfl ⟨rfl, ?_⟩
  exact HA.out _ _

end Go.Proofs.YtmbjahjkgjkbhaaDoor
