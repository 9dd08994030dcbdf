/- asm: the numbers of .byte, .word and .long. asm: one line of numbers read. asm: a pool begun; lines built. asm: the unit of a source of lines of .long. asm: nothing is made long where nothing leads; places laid. -/
import Derived.Test.YtbpoiajpcahdhaaGreatDoorPut39
import Derived.Test.YtbpoiajpcahdhaaGreatDoorPut40
import Derived.Test.YtbpoiajpcahdhaaGreatDoorPut37
import Derived.Test.YtbpoiajpcahdhaaGreatDoorPut34
namespace Go.Proofs.YtbpoiajpcahdhaaGreatDoor
open Go.RowKit

end Go.Proofs.YtbpoiajpcahdhaaGreatDoor

namespace Go.Proofs.YtbpoiajpcahdhaaGreatDoor
open Go.RowKit

end Go.Proofs.YtbpoiajpcahdhaaGreatDoor

namespace Go.Proofs.YtbpoiajpcahdhaaGreatDoor
open Go.RowKit

theorem UR.line {w : World} {B gu : Nat} {e : Value} {ln : Int} {nv lm pp pv rv : Value} {its : List It} (h : UR w B gu e ln nv lm pp pv rv its) (p : Int) : UR (w.setCell ⟨gu, 1, none⟩ (.int .i64 p)) B gu e p nv lm pp pv rv its := by
  obtain ⟨iv, l, h1, h2, h3, h4⟩ := h.its
  exact ⟨h.lt, by simpa using h.le, iv, l, blk_set h1, row_set h2 h.lt, h3, fun p hp => (h4 p hp).fr h1 (fun i _ hne => Below.heap_setCell _ _ _ _ hne)⟩

/-- A block that holds no byte is changed. -/
theorem OBytes.set {w : World} {q i : Nat} {c : Array Value} {t : TypeId} {v x : Value} {l : List UInt8} (ho : OBytes w x l) (h : w.heap[q]? = some (.cells c t (0, 0))) (hc : ∀ (j : Nat) (n : Int), c[j]? ≠ some (Value.int .u8 n)) : OBytes (w.setCell ⟨q, i, none⟩ v) x l := by
  obtain ⟨ad, cap, rfl, hm, hl⟩ := ho
  refine ⟨ad, cap, rfl, hm, fun h0 => ?_⟩
  obtain ⟨b, o, rfl, hb, hcell⟩ := hl h0
  have hne : b ≠ q := by
    intro e
    subst e
    have := hcell 0 h0
    simp only [World.cell?, h] at this
    exact hc (o + 0) _ (by simpa using this)
  refine ⟨b, o, rfl, by simpa using hb, fun j hj => ?_⟩
  have hk : (w.setCell ⟨q, i, none⟩ v).heap[b]? = w.heap[b]? := Below.heap_setCell _ _ _ _ hne
  have := hcell j hj
  simp only [World.cell?, hk] at this ⊢
  exact this

end Go.Proofs.YtbpoiajpcahdhaaGreatDoor

namespace Go.Proofs.YtbpoiajpcahdhaaGreatDoor
open Go.RowKit

theorem lcells_at : ∀ (ps : List (Sc.Ln × Value)) (i : Nat) (h : i < ps.length), (Sc.lcells ps)[i * 2]? = some (.int .i64 ps[i].1.pos) ∧ (Sc.lcells ps)[i * 2 + 1]? = some ps[i].2
  | [], i, h => by simp at h
  | p :: r, 0, h => by simp [Sc.lcells]
  | p :: r, i + 1, h => by
    have ih := lcells_at r i (by simpa using h)
    have e : Sc.lcells (p :: r) = [.int .i64 p.1.pos, p.2] ++ Sc.lcells r := by simp [Sc.lcells]
    rw [e, show (i + 1) * 2 = 2 + i * 2 by omega]
    simp only [List.getElem_cons_succ]
    refine ⟨?_, ?_⟩
    · rw [List.getElem?_append_right (by simp)]; simpa using ih.1
    · rw [List.getElem?_append_right (by simp; omega)]; simpa [show 2 + i * 2 + 1 - 2 = i * 2 + 1 by omega] using ih.2

theorem lin_of {w : World} {base : Nat} {v : Value} {ps : List (Sc.Ln × Value)} (h : Sc.LOwn w base v ps) : LIn w v (ps.map (·.1)) := by
  rcases id h.row.2 with ⟨hv, h0⟩ | ⟨g, cap, cur, rfl, hg, hgg, hle, hm, rest⟩
  · exact ⟨none, 0, by rw [hv]; simp [h0], fun h => by simp at h; omega⟩
  · refine ⟨some ⟨g, 0, none⟩, cap, by simp, fun _ => ⟨g, 0, rfl, blk_lt hgg, fun i hi => ?_⟩⟩
    have hi' : i < ps.length := by simpa using hi
    obtain ⟨a, b⟩ := lcells_at ps i hi'
    have hadd : ∀ j, (⟨g, 0, none⟩ : Addr).add j = ⟨g, 0 + j, none⟩ := fun j => by unfold Addr.add; split <;> simp_all
    have k0 := h.row.cells rfl _ _ a
    have k1 := h.row.cells rfl _ _ b
    rw [hadd] at k0 k1
    simp only [List.getElem_map]
    exact ⟨ps[i].2, k0, k1, Sc.reads_of_owns (h.toks ps[i] (List.getElem_mem _))⟩

end Go.Proofs.YtbpoiajpcahdhaaGreatDoor

namespace Go.Proofs.YtbpoiajpcahdhaaGreatDoor
open Go.RowKit

set_option maxHeartbeats 4000000 in
set_option maxRecDepth 100000 in
theorem lengthen_none (gu B : Nat) (e nv lm pp pv rv : Value) (ln : Int) (its : List It) (w : World) (h : UR w B gu e ln nv lm pp pv rv its) (hn : its.length ≤ 100000) (hnf : ∀ x, x ∈ its → NoFar x) :
    Calls Tryz.prog 93 #[.pointer (some ⟨gu, 0, none⟩)] w fun r w' => r = .returned (.bool false) ∧ Below w.heap.size w w' := by
  obtain ⟨iv, l, h1, h2, h3, h4⟩ := h.its
  obtain ⟨ia, ic, rfl⟩ := row_shape h2
  have hll : l.length = its.length := by rw [← h3]; simp
  have c4 : w.cell? ⟨gu, 4, none⟩ = some (.slice ia its.length ic) := blk_cell h1 rfl
  have hg := blk_lt h1
  have H2 := Lib.hid h2
  have H4 : Hid (∀ p, p ∈ l → p.2.1 = .nilFunc ∧ ∃ a b c, p.2.2 = .func a b c) := fun p hp => ⟨(h4 p hp).noFar (hnf p.1 (by rw [← h3]; exact List.mem_map_of_mem hp)), (h4 p hp).shape.2⟩
  clear h h1 h2 h3 h4 hnf
  have hnn : ∀ W, (binOp .neq 174 .nilFunc .nilFunc).run Tryz.prog W = .ok (.bool false) W := fun W => by kernel_rfl
  go_enter Tryz.func93, Tryz.ntmps93
  go_wp2_with fail
  go_loopw [3, 11] (fun bv iv wr => ∃ k : Nat, k ≤ its.length ∧ iv = .int .i64 k ∧ bv = .bool false ∧ Hid (Below w.heap.size w wr)) (fun _ iv _ => its.length - (intOf iv).toNat)
  case atStart => exact ⟨0, Nat.zero_le _, rfl, rfl, Below.refl _ _⟩
  case round =>
    obtain ⟨k, hk, rfl, rfl, HB⟩ := hrel
    by_cases hlt : k < its.length
    · have hk' : (k : Int) < its.length := by omega
      obtain ⟨g, cur, rfl, hgc, hcells⟩ := item_cells H2.out hll hlt
      obtain ⟨hgl, i0, i1, i2, i3, i4, i5⟩ := hcells wr (HB.out.block g (blk_lt hgc))
      obtain ⟨hf1, fa, fb, fc, hf2⟩ := H4.out (l[k]'(by omega)) (List.getElem_mem _)
      rw [hf1] at i4
      rw [hf2] at i5
      generalize (l[k]'(by omega)).1.line = li at *
      generalize (l[k]'(by omega)).1.size = sz at *
      generalize (l[k]'(by omega)).1.upTo = up at *
      generalize (l[k]'(by omega)).1.align = al at *
      clear hcells hf1 hf2 hgc
      go_wp2_with fail
      go_region
      all_goals go_wp2
      all_goals exact ⟨⟨k + 1, by omega, by go_num, rfl, (HB.out.alloc HB.out.size _).drew⟩, by simp [intOf]; omega⟩
    · have hk' : ¬ (k : Int) < its.length := by omega
      go_wp2
      go_ret
      exact ⟨rfl, HB.out⟩

end Go.Proofs.YtbpoiajpcahdhaaGreatDoor
