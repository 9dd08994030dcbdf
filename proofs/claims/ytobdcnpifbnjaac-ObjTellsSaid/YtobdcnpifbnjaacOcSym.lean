/- The contracts of the program's own reader: its sym and reloc. -/
import Derived.Test.YtobdcnpifbnjaacOcRn
namespace Go.Proofs.Ytobdcnpifbnjaac
open Go.RowKit

theorem DR.alloc {w : World} {Q : Nat} {l : List UInt8} {s : Bool} (h : DR w Q l s) (o : Obj) : DR (w.alloc o) Q l s := h.below (oalloc _ _) h.lt
/-- A cell of a new box, by way of what leaves it alone. -/
theorem grown_block {w w' : World} {Q b : Nat} {o : Obj} (hg : w.grownBy w' (some Q)) (hb : w.heap[b]? = some o) (hne : b ≠ Q) : w'.heap[b]? = some o := by
  rw [hg.block b (Array.getElem?_eq_some_iff.1 hb).1 (by simpa using hne)]
  exact hb
theorem ognew {a b : World} {o : Obj} {r : Option Nat} (h : (a.alloc o).grownBy b r) : a.grownBy b r := ogtrans (World.grownBy_alloc _ _ _) h
theorem ogfar {a b c : World} {r g : Option Nat} (h : a.grownBy b r) (k : b.grownBy c g) (hg : ∀ j, g = some j → a.heap.size ≤ j) : a.grownBy c r :=
  ⟨k.os.trans h.os, k.tape.trans h.tape, k.output.trans h.output, Nat.le_trans h.size k.size, fun i hi hr => (k.block i (Nat.lt_of_lt_of_le hi h.size) (fun e => by have := hg i e.symm; omega)).trans (h.block i hi hr)⟩
theorem DR.set {w : World} {Q b o : Nat} {l : List UInt8} {s : Bool} (h : DR w Q l s) (hb : Q < b) (v : Value) : DR (w.setCell ⟨b, o, none⟩ v) Q l s := h.keep fun i hi => Below.heap_setCell _ _ _ _ (by show i ≠ b; omega)
theorem ogset2 {a w : World} {r : Option Nat} {b o : Nat} (h : a.grownBy w r) (hb : a.heap.size ≤ b) (v : Value) : a.grownBy (w.setCell ⟨b, o, none⟩ v) r := ogfar h (ogset w b o v) (fun j hj => by cases hj; exact hb)

set_option maxHeartbeats 2000000 in
theorem dsym_any (Q : Nat) (l : List UInt8) (s : Bool) (w : World) (h : DR w Q l s) :
    Calls Try.prog 25 #[.pointer (some ⟨Q, 0, none⟩)] w fun e w' => e = .returned (symV (dSym l s).1) ∧ DR w' Q (dSym l s).2.1 (dSym l s).2.2 ∧ w.grownBy w' (some Q) := by
  have hQ := h.lt
  have hn := dname_any Q l s (w.alloc (.cells #[.string ⟨#[]⟩, .int .i64 0] 38)) (h.alloc _)
  have H4 : Hid (∀ w1, DR w1 Q (dName l s).2.1 (dName l s).2.2 → Calls Try.prog 23 #[.pointer (some ⟨Q, 0, none⟩), .int .i64 4] w1 fun e w' => e = .returned (.int .i64 ((dSym l s).1.pos)) ∧ DR w' Q (dSym l s).2.1 (dSym l s).2.2 ∧ w1.grownBy w' (some Q)) :=
    fun w1 hd => dnum4 Q (dName l s).2.1 (dName l s).2.2 w1 hd
  have HN : Hid ((dSym l s).1.name = (dName l s).1) := rfl
  clear h
  unfold symV
  rw [HN.out]
  clear HN
  generalize dName l s = x at *
  generalize dSym l s = y at *
  go_enter Try.func25, Try.ntmps25
  go_wp2_with fail
  refine hn.mono ?_
  rintro e w1 ⟨rfl, hd1, hg1⟩
  have hb1 := grown_block hg1 (heap_alloc_new w _) (by omega)
  have HG1 := Lib.hid (ognew hg1)
  have HB1 := Lib.hid hb1
  have H41 := Lib.hid (H4.out w1 hd1)
  clear hb1 hd1 hg1 H4 hn
  go_wp2_with fail
  refine H41.out.mono ?_
  rintro e w2 ⟨rfl, hd2, hg2⟩
  have hb2 := grown_block hg2 HB1.out (by omega)
  have x0 := cell_of_block (i := 0) hb2 rfl
  have x1 := cell_of_block (i := 1) hb2 rfl
  have f0 : w2.frozen? ⟨w.heap.size, 0, none⟩ = false := by unfold World.frozen?; simp only [hb2]; rfl
  have f1 : w2.frozen? ⟨w.heap.size, 1, none⟩ = false := by unfold World.frozen?; simp only [hb2]; rfl
  have HD2 := Lib.hid (And.intro hd2 (ogtrans HG1.out hg2))
  clear hb2 hd2 hg2 HB1 HG1 H41
  go_wp2
  exact bodyPost_ret (v := .agg #[.string ⟨x.1.toArray⟩, .int .i64 y.1.pos]) (by simp [results, Try.results25, go_sem, x0, x1]) rfl
    ⟨rfl, (HD2.out.1.set hQ _).set hQ _, ogset2 (ogset2 HD2.out.2 (Nat.le_refl _) _) (Nat.le_refl _) _⟩

set_option maxHeartbeats 4000000 in
theorem drel_any (Q : Nat) (l : List UInt8) (s : Bool) (w : World) (h : DR w Q l s) :
    Calls Try.prog 27 #[.pointer (some ⟨Q, 0, none⟩)] w fun e w' => e = .returned (relV (dRel l s).1) ∧ DR w' Q (dRel l s).2.1 (dRel l s).2.2 ∧ w.grownBy w' (some Q) := by
  have hQ := h.lt
  obtain ⟨a, ha⟩ : ∃ a, a = dN 4 l s := ⟨_, rfl⟩
  obtain ⟨b, hb⟩ : ∃ b, b = dN 1 a.2.1 a.2.2 := ⟨_, rfl⟩
  obtain ⟨c, hc⟩ : ∃ c, c = dName b.2.1 b.2.2 := ⟨_, rfl⟩
  obtain ⟨d, hd⟩ : ∃ d, d = dN 4 c.2.1 c.2.2 := ⟨_, rfl⟩
  have hR : dRel l s = (⟨a.1, b.1, c.1, wrap32 d.1⟩, d.2) := by unfold dRel; simp only [← ha, ← hb, ← hc, ← hd]
  have h1 := dnum4 Q l s (w.alloc (.cells #[.int .i64 0, .int .i64 0, .string ⟨#[]⟩, .int .i64 0] 41)) (h.alloc _)
  have H2 := Lib.hid (fun w1 hd => dnum1 Q a.2.1 a.2.2 w1 hd)
  have H3 := Lib.hid (fun w1 hd => dname_any Q b.2.1 b.2.2 w1 hd)
  have H4 := Lib.hid (fun w1 hd => dnum4 Q c.2.1 c.2.2 w1 hd)
  rw [← ha] at h1
  rw [← hb] at H2
  rw [← hc] at H3
  rw [← hd] at H4
  rw [hR]
  clear ha hb hc hd hR h
  unfold relV
  simp only
  go_enter Try.func27, Try.ntmps27
  go_wp2_with fail
  refine h1.mono ?_
  rintro e w1 ⟨rfl, hd1, hg1⟩
  have HB1 := Lib.hid (grown_block hg1 (heap_alloc_new w _) (by omega))
  have HG1 := Lib.hid (ognew hg1)
  have H21 := Lib.hid (H2.out w1 hd1)
  clear hd1 hg1 H2 h1
  go_wp2_with fail
  refine H21.out.mono ?_
  rintro e w2 ⟨rfl, hd2, hg2⟩
  have HB2 := Lib.hid (grown_block hg2 HB1.out (by omega))
  have HG2 := Lib.hid (ogtrans HG1.out hg2)
  have H32 := Lib.hid (H3.out w2 hd2)
  clear hd2 hg2 H3 H21 HB1 HG1
  go_wp2_with fail
  refine H32.out.mono ?_
  rintro e w3 ⟨rfl, hd3, hg3⟩
  have HB3 := Lib.hid (grown_block hg3 HB2.out (by omega))
  have HG3 := Lib.hid (ogtrans HG2.out hg3)
  have H43 := Lib.hid (H4.out w3 hd3)
  clear hd3 hg3 H4 H32 HB2 HG2
  go_wp2_with fail
  refine H43.out.mono ?_
  rintro e w4 ⟨rfl, hd4, hg4⟩
  have hb4 := grown_block hg4 HB3.out (by omega)
  have x0 := cell_of_block (i := 0) hb4 rfl
  have x1 := cell_of_block (i := 1) hb4 rfl
  have x2 := cell_of_block (i := 2) hb4 rfl
  have x3 := cell_of_block (i := 3) hb4 rfl
  have f0 : w4.frozen? ⟨w.heap.size, 0, none⟩ = false := by unfold World.frozen?; simp only [hb4]; rfl
  have f1 : w4.frozen? ⟨w.heap.size, 1, none⟩ = false := by unfold World.frozen?; simp only [hb4]; rfl
  have f2 : w4.frozen? ⟨w.heap.size, 2, none⟩ = false := by unfold World.frozen?; simp only [hb4]; rfl
  have f3 : w4.frozen? ⟨w.heap.size, 3, none⟩ = false := by unfold World.frozen?; simp only [hb4]; rfl
  have HD4 := Lib.hid (And.intro hd4 (ogtrans HG3.out hg4))
  clear hb4 hd4 hg4 HB3 HG3 H43
  go_wp2_with (go_at_call 36; refine (signed_ob _ _).mono ?_; rintro e w' ⟨rfl, rfl⟩)
  exact bodyPost_ret (v := .agg #[.int .i64 a.1, .int .i64 b.1, .string ⟨c.1.toArray⟩, .int .i64 (wrap32 d.1)]) (by simp [results, Try.results27, go_sem, x0, x1, x2, x3]) rfl
    ⟨rfl, (((HD4.out.1.set hQ _).set hQ _).set hQ _).set hQ _, ogset2 (ogset2 (ogset2 (ogset2 HD4.out.2 (Nat.le_refl _) _) (Nat.le_refl _) _) (Nat.le_refl _) _) (Nat.le_refl _) _⟩

end Go.Proofs.Ytobdcnpifbnjaac
