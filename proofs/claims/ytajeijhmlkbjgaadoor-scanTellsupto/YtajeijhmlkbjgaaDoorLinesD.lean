/- The walk of ScanLines. -/
import Derived.Test.YtajeijhmlkbjgaaDoorAppA
namespace Go.Proofs.YtajeijhmlkbjgaaDoor
open Go.RowKit

def bcs (l : List UInt8) : List Value := l.map fun c => Value.int .u8 (c.toNat : Int)
theorem bcs_len (l : List UInt8) : (bcs l).length = l.length * 1 := by simp [bcs]
theorem bcs_one (l : List UInt8) : ∀ u ∈ bcs l, u.oneCell' = true := by
  intro u hu
  simp only [bcs, List.mem_map] at hu
  obtain ⟨c, _, rfl⟩ := hu
  rfl
theorem bcs_app (a b : List UInt8) : bcs (a ++ b) = bcs a ++ bcs b := by simp [bcs]

theorem info5 : (Tryd.prog.info? 5).map (fun i => (i.zero, i.size, i.bytes)) = some (some (.int .u8 0), 1, 1) := by kernel_rfl

theorem breads_src {W : World} {ad : Option Addr} {cap : Nat} {bs : List UInt8} (h : BReads W (.slice ad bs.length cap) bs) : 0 < bs.length → ∃ a, ad = some a ∧ ∀ j u, (bcs bs)[j]? = some u → W.cell? (a.add j) = some u := by
  intro h0
  obtain ⟨ad', cap', e, _, hc⟩ := h
  injection e with e1 _ e3
  subst e1
  obtain ⟨b, o, rfl, _, hcell⟩ := hc h0
  refine ⟨_, rfl, fun j u hj => ?_⟩
  have hjl : j < bs.length := by
    have := (List.getElem?_eq_some_iff.1 hj).1
    simpa [bcs] using this
  have hadd : (⟨b, o, none⟩ : Addr).add j = ⟨b, o + j, none⟩ := by unfold Addr.add; split <;> simp_all
  rw [hadd, hcell j hjl]
  simpa [bcs, hjl] using hj

theorem breads_of_owns {W : World} {base g cap : Nat} {bs : List UInt8} (h : W.ownsRow base 5 1 (.slice (some ⟨g, 0, none⟩) bs.length cap) bs.length (bcs bs)) : BReads W (.slice (some ⟨g, 0, none⟩) bs.length cap) bs := by
  have hlt := (h.lt g rfl).2
  have hm : bs.length ≤ maxLen := by
    rcases h.2 with ⟨e, _⟩ | ⟨_, _, _, _, _, _, hle, hm, _⟩
    · cases e
    · omega
  refine ⟨_, cap, rfl, hm, fun _ => ⟨g, 0, rfl, hlt, fun i hi => ?_⟩⟩
  have := h.cells rfl i (.int .u8 (bs[i].toNat : Int)) (by simp [bcs, hi])
  have hadd : (⟨g, 0, none⟩ : Addr).add i = ⟨g, 0 + i, none⟩ := by unfold Addr.add; split <;> simp_all
  rw [hadd] at this
  exact this

theorem BReads.below {w w' : World} {B : Nat} {v : Value} {bs : List UInt8} (h : BReads w v bs) (hb : Below B w w') (hB : w.heap.size ≤ B) : BReads w' v bs := by
  obtain ⟨ad, cap, rfl, hm, hc⟩ := h
  refine ⟨ad, cap, rfl, hm, fun h0 => ?_⟩
  obtain ⟨b, o, rfl, hlt, hcell⟩ := hc h0
  refine ⟨b, o, rfl, Nat.lt_of_lt_of_le hlt hb.size, fun i hi => ?_⟩
  rw [hb.cell (by show b < B; omega)]
  exact hcell i hi

/-- Three appends: a source of two parts, with a line feed between. -/
theorem three_apps (w : World) (ad bd : Option Addr) (ca cb : Nat) (al bs : List UInt8) (ha : BReads w (.slice ad al.length ca) al) (hb : BReads w (.slice bd bs.length cb) bs) (hna : ad = none → al.length = 0) (hnb : bd = none → bs.length = 0) (hsum : al.length + bs.length ≤ 1200) :
    ∃ g1 c1 W1 g2 c2 W2 g3 c3 W3,
      (Builtin.append_ #[24, 24] 24 #[.slice (some ⟨w.heap.size, 0, none⟩) 0 0, .slice ad al.length ca]).run Tryd.prog (w.alloc (.cells #[] 5)) = .ok (.slice (some ⟨g1, 0, none⟩) al.length c1) W1 ∧
      (Builtin.append_ #[24, 24] 24 #[.slice (some ⟨g1, 0, none⟩) al.length c1, .slice (some ⟨W1.heap.size, 0, none⟩) 1 1]).run Tryd.prog (W1.alloc (.cells #[.int .u8 10] 5)) = .ok (.slice (some ⟨g2, 0, none⟩) (al.length + 1) c2) W2 ∧
      (Builtin.append_ #[24, 24] 24 #[.slice (some ⟨g2, 0, none⟩) (al.length + 1) c2, .slice bd bs.length cb]).run Tryd.prog W2 = .ok (.slice (some ⟨g3, 0, none⟩) (al.length + 1 + bs.length) c3) W3 ∧
      BReads W3 (.slice (some ⟨g3, 0, none⟩) (al ++ 10 :: bs).length c3) (al ++ 10 :: bs) ∧ Below w.heap.size w W3 := by
  obtain ⟨i5, hi, hz0, hz1, hz2⟩ := info_parts info5
  have hA : Below w.heap.size w (w.alloc (.cells #[] 5)) := (Below.refl _ _).alloc (Nat.le_refl _) _
  have hown0 : (w.alloc (.cells #[] 5)).ownsRow w.heap.size 5 1 (.slice (some ⟨w.heap.size, 0, none⟩) 0 0) 0 [] := by
    refine ⟨by simp, Or.inr ⟨w.heap.size, 0, #[], rfl, Nat.le_refl _, heap_alloc_new w _, Nat.le_refl _, by decide, by simp, by simp⟩⟩
  obtain ⟨g1, c1, W1, r1, o1, gr1⟩ := append_any 24 24 5 i5 _ 1 1 Tryd.underlying24 hi hz0 hz1 hz2 rfl (by decide) (w.alloc (.cells #[] 5)) w.heap.size w.heap.size 0 0 [] hown0 ad al.length ca (bcs al) (bcs_len al) (breads_src (ha.below hA (Nat.le_refl _))) hna (bcs_one al) (by unfold maxLen; omega) (by omega) (by simp)
  have B1 : Below w.heap.size w W1 := hA.grown gr1 (by simp) (by intro k hk; cases hk; exact Nat.le_refl _)
  have B1' : Below w.heap.size w (W1.alloc (.cells #[.int .u8 10] 5)) := B1.alloc B1.size _
  have hs1 : w.heap.size < W1.heap.size := by have := gr1.size; simp at this; omega
  rw [Nat.zero_add] at r1 o1
  obtain ⟨g2, c2, W2, r2, o2, gr2⟩ := append_any 24 24 5 i5 _ 1 1 Tryd.underlying24 hi hz0 hz1 hz2 rfl (by decide) (W1.alloc (.cells #[.int .u8 10] 5)) w.heap.size g1 al.length c1 _ (o1.alloc _) (some ⟨W1.heap.size, 0, none⟩) 1 1 [.int .u8 10] rfl (fun _ => ⟨_, rfl, fun j u hj => by
    match j, hj with
    | 0, hj => simp at hj; subst hj; simp [go_sem, Addr.add]⟩) (fun h => by cases h) (by intro u hu; simp at hu; subst hu; rfl) (by unfold maxLen; omega) (by omega) (by simp; omega)
  have hg1 : w.heap.size ≤ g1 := (o1.lt g1 rfl).1
  have B2 : Below w.heap.size w W2 := B1'.grown gr2 (by simp; omega) (by intro k hk; cases hk; exact hg1)
  obtain ⟨g3, c3, W3, r3, o3, gr3⟩ := append_any 24 24 5 i5 _ 1 1 Tryd.underlying24 hi hz0 hz1 hz2 rfl (by decide) W2 w.heap.size g2 (al.length + 1) c2 _ o2 bd bs.length cb (bcs bs) (bcs_len bs) (breads_src (hb.below B2 (Nat.le_refl _))) hnb (bcs_one bs) (by unfold maxLen; omega) (by omega) B2.size
  have hg2 : w.heap.size ≤ g2 := (o2.lt g2 rfl).1
  have B3 : Below w.heap.size w W3 := B2.grown gr3 B2.size (by intro k hk; cases hk; exact hg2)
  have hlen : (al ++ 10 :: bs).length = al.length + 1 + bs.length := by simp; omega
  have hcs : [] ++ bcs al ++ [Value.int .u8 10] ++ bcs bs = bcs (al ++ 10 :: bs) := by simp [bcs]
  rw [hcs, ← hlen] at o3
  exact ⟨g1, c1, W1, g2, c2, W2, g3, c3, W3, r1, r2, r3, breads_of_owns o3, B3⟩

end Go.Proofs.YtajeijhmlkbjgaaDoor
