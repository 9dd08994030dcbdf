/- asm: a pool begun; lines built. asm: the unit of a source of lines of .long. asm: nothing is made long where nothing leads; places laid. asm: an operand '@' and a register. expr: a sign ahead of a number. expr: a sign, and a number behind it, added. -/
import Derived.Test.YtgjmbjahgcndnaaGreatDoorPut32
import Derived.Test.YtgjmbjahgcndnaaGreatDoorPut29
import Derived.Test.YtgjmbjahgcndnaaGreatDoorPut28
import Derived.Test.YtgjmbjahgcndnaaGreatDoorPut31
namespace Go.Proofs.YtgjmbjahgcndnaaGreatDoor
open Go.RowKit

theorem UR.line {w : World} {B gu : Nat} {e : Value} {ln : Int} {nv lm pp pv rv : Value} {its : List It} (h : UR w B gu e ln nv lm pp pv rv its) (p : Int) : UR (w.setCell ⟨gu, 1, none⟩ (.int .i64 p)) B gu e p nv lm pp pv rv its := by
  obtain ⟨iv, l, h1, h2, h3, h4⟩ := h.its
  exact ⟨h.lt, by simpa using h.le, iv, l, blk_set h1, row_set h2 h.lt, h3, fun p hp => (h4 p hp).fr h1 (fun i _ hne => Below.heap_setCell _ _ _ _ hne)⟩

/-- A block that holds no byte is changed. -/
theorem OBytes.set {w : World} {q i : Nat} {c : Array Value} {t : TypeId} {v x : Value} {l : List UInt8} (ho : OBytes w x l) (h : w.heap[q]? = some (.cells c t (0, 0))) (hc : ∀ (j : Nat) (n : Int), c[j]? ≠ some (Value.int .u8 n)) : OBytes (w.setCell ⟨q, i, none⟩ v) x l := by
  obtain ⟨ad, cap, rfl, hm, hl⟩ := ho
  refine ⟨ad, cap, rfl, hm, fun h0 => ?_⟩
  obtain ⟨b, o, rfl, hb, hcell⟩ := hl h0
  have hne : b ≠ q := by
    intro e
    subst e
    have := hcell 0 h0
    simp only [World.cell?, h] at this
    exact hc (o + 0) _ (by simpa using this)
  refine ⟨b, o, rfl, by simpa using hb, fun j hj => ?_⟩
  have hk : (w.setCell ⟨q, i, none⟩ v).heap[b]? = w.heap[b]? := Below.heap_setCell _ _ _ _ hne
  have := hcell j hj
  simp only [World.cell?, hk] at this ⊢
  exact this

end Go.Proofs.YtgjmbjahgcndnaaGreatDoor

namespace Go.Proofs.YtgjmbjahgcndnaaGreatDoor
open Go.RowKit

theorem lcells_at : ∀ (ps : List (Sc.Ln × Value)) (i : Nat) (h : i < ps.length), (Sc.lcells ps)[i * 2]? = some (.int .i64 ps[i].1.pos) ∧ (Sc.lcells ps)[i * 2 + 1]? = some ps[i].2
  | [], i, h => by simp at h
  | p :: r, 0, h => by simp [Sc.lcells]
  | p :: r, i + 1, h => by
    have ih := lcells_at r i (by simpa using h)
    have e : Sc.lcells (p :: r) = [.int .i64 p.1.pos, p.2] ++ Sc.lcells r := by simp [Sc.lcells]
    rw [e, show (i + 1) * 2 = 2 + i * 2 by omega]
    simp only [List.getElem_cons_succ]
    refine ⟨?_, ?_⟩
    · rw [List.getElem?_append_right (by simp)]; simpa using ih.1
    · rw [List.getElem?_append_right (by simp; omega)]; simpa [show 2 + i * 2 + 1 - 2 = i * 2 + 1 by omega] using ih.2

theorem lin_of {w : World} {base : Nat} {v : Value} {ps : List (Sc.Ln × Value)} (h : Sc.LOwn w base v ps) : LIn w v (ps.map (·.1)) := by
  rcases id h.row.2 with ⟨hv, h0⟩ | ⟨g, cap, cur, rfl, hg, hgg, hle, hm, rest⟩
  · exact ⟨none, 0, by rw [hv]; simp [h0], fun h => by simp at h; omega⟩
  · refine ⟨some ⟨g, 0, none⟩, cap, by simp, fun _ => ⟨g, 0, rfl, blk_lt hgg, fun i hi => ?_⟩⟩
    have hi' : i < ps.length := by simpa using hi
    obtain ⟨a, b⟩ := lcells_at ps i hi'
    have hadd : ∀ j, (⟨g, 0, none⟩ : Addr).add j = ⟨g, 0 + j, none⟩ := fun j => by unfold Addr.add; split <;> simp_all
    have k0 := h.row.cells rfl _ _ a
    have k1 := h.row.cells rfl _ _ b
    rw [hadd] at k0 k1
    simp only [List.getElem_map]
    exact ⟨ps[i].2, k0, k1, Sc.reads_of_owns (h.toks ps[i] (List.getElem_mem _))⟩

end Go.Proofs.YtgjmbjahgcndnaaGreatDoor

namespace Go.Proofs.YtgjmbjahgcndnaaGreatDoor
open Go.RowKit

set_option maxHeartbeats 4000000 in
set_option maxRecDepth 100000 in
theorem lengthen_none (gu B : Nat) (e nv lm pp pv rv : Value) (ln : Int) (its : List It) (w : World) (h : UR w B gu e ln nv lm pp pv rv its) (hn : its.length ≤ 100000) (hnf : ∀ x, x ∈ its → NoFar x) :
    Calls Tryz.prog 98 #[.pointer (some ⟨gu, 0, none⟩)] w fun r w' => r = .returned (.bool false) ∧ Below w.heap.size w w' := by
  obtain ⟨iv, l, h1, h2, h3, h4⟩ := h.its
  obtain ⟨ia, ic, rfl⟩ := row_shape h2
  have hll : l.length = its.length := by rw [← h3]; simp
  have c4 : w.cell? ⟨gu, 4, none⟩ = some (.slice ia its.length ic) := blk_cell h1 rfl
  have hg := blk_lt h1
  have H2 := Lib.hid h2
  have H4 : Hid (∀ p, p ∈ l → p.2.1 = .nilFunc ∧ ∃ a b c, p.2.2 = .func a b c) := fun p hp => ⟨(h4 p hp).noFar (hnf p.1 (by rw [← h3]; exact List.mem_map_of_mem hp)), (h4 p hp).shape.2⟩
  clear h h1 h2 h3 h4 hnf
  have hnn : ∀ W, (binOp .neq 74 .nilFunc .nilFunc).run Tryz.prog W = .ok (.bool false) W := fun W => by kernel_rfl
  go_enter Tryz.func98, Tryz.ntmps98
  go_wp2_with fail
  go_loopw [3, 11] (fun bv iv wr => ∃ k : Nat, k ≤ its.length ∧ iv = .int .i64 k ∧ bv = .bool false ∧ Hid (Below w.heap.size w wr)) (fun _ iv _ => its.length - (intOf iv).toNat)
  case atStart => exact ⟨0, Nat.zero_le _, rfl, rfl, Below.refl _ _⟩
  case round =>
    obtain ⟨k, hk, rfl, rfl, HB⟩ := hrel
    by_cases hlt : k < its.length
    · have hk' : (k : Int) < its.length := by omega
      obtain ⟨g, cur, rfl, hgc, hcells⟩ := item_cells H2.out hll hlt
      obtain ⟨hgl, i0, i1, i2, i3, i4, i5⟩ := hcells wr (HB.out.block g (blk_lt hgc))
      obtain ⟨hf1, fa, fb, fc, hf2⟩ := H4.out (l[k]'(by omega)) (List.getElem_mem _)
      rw [hf1] at i4
      rw [hf2] at i5
      generalize (l[k]'(by omega)).1.line = li at *
      generalize (l[k]'(by omega)).1.size = sz at *
      generalize (l[k]'(by omega)).1.upTo = up at *
      generalize (l[k]'(by omega)).1.align = al at *
      clear hcells hf1 hf2 hgc
      go_wp2_with fail
      go_region
      all_goals go_wp2
      all_goals exact ⟨⟨k + 1, by omega, by go_num, rfl, (HB.out.alloc HB.out.size _).drew⟩, by simp [intOf]; omega⟩
    · have hk' : ¬ (k : Int) < its.length := by omega
      go_wp2
      go_ret
      exact ⟨rfl, HB.out⟩

end Go.Proofs.YtgjmbjahgcndnaaGreatDoor

namespace Go.Proofs.YtgjmbjahgcndnaaGreatDoor
open Go.RowKit

set_option maxHeartbeats 2000000 in
theorem operand_at (gu : Nat) (v : Value) (sn : Int) (x : Tk) (w : World) (hG : Sc.Glob w) (h : PReads w v [⟨3, sn, ⟨#[64]⟩⟩, x]) (hx : x.k = 1) (hr : 0 ≤ regU 1 x.t.data.toList) :
    Calls Tryz.prog 131 #[.pointer (some ⟨gu, 0, none⟩), v] w fun r w' => r = .returned (.tuple #[opV ⟨#[64]⟩ (regU 1 x.t.data.toList) ⟨#[]⟩ 0, .int .i64 0]) ∧ Below w.heap.size w w' := by
  have HN := Lib.hid fun W (hb : Below w.heap.size w W) => next_any v [⟨3, sn, ⟨#[64]⟩⟩, x] W (h.below hb (Nat.le_refl _))
  have HE0 := Lib.hid fun v' W (hb : Below w.heap.size w W) (hv : PReads W v' [x]) => lone_any ⟨#[64]⟩ v' x W (hG.below hb hG.sz) hv hx hr
  have HS1 : Hid (∀ W, Calls Tryz.prog 125 #[tokV 3 sn ⟨#[64]⟩, .string ⟨#[35]⟩] W fun r w' => r = .returned (.bool false) ∧ Below W.heap.size W w') := fun W => by
    have := asign_any 3 sn ⟨#[64]⟩ ⟨#[35]⟩ W
    rwa [show ((3 : Int) == 3 && (⟨#[64]⟩ : ByteArray).toList == (⟨#[35]⟩ : ByteArray).toList) = false by simp [ByteArray.toList_eq]] at this
  have HS2 : Hid (∀ W, Calls Tryz.prog 125 #[tokV 3 sn ⟨#[64]⟩, .string ⟨#[61]⟩] W fun r w' => r = .returned (.bool false) ∧ Below W.heap.size W w') := fun W => by
    have := asign_any 3 sn ⟨#[64]⟩ ⟨#[61]⟩ W
    rwa [show ((3 : Int) == 3 && (⟨#[64]⟩ : ByteArray).toList == (⟨#[61]⟩ : ByteArray).toList) = false by simp [ByteArray.toList_eq]] at this
  have HS3 : Hid (∀ W, Calls Tryz.prog 125 #[tokV 3 sn ⟨#[64]⟩, .string ⟨#[64]⟩] W fun r w' => r = .returned (.bool true) ∧ Below W.heap.size W w') := fun W => by
    have := asign_any 3 sn ⟨#[64]⟩ ⟨#[64]⟩ W
    rwa [show ((3 : Int) == 3 && (⟨#[64]⟩ : ByteArray).toList == (⟨#[64]⟩ : ByteArray).toList) = true by simp] at this
  obtain ⟨ad, cap, rfl, _⟩ := h
  clear hG
  generalize regU 1 x.t.data.toList = rg at *
  unfold opV at *
  unfold Tk.V tokV headT at *
  simp only [List.length_cons, List.length_nil] at *
  go_enter Tryz.func131, Tryz.ntmps131
  go_wp2_with fail
  refine (HN.out _ (oalloc _ _)).mono ?_
  rintro e w1 ⟨⟨v', rfl, hv⟩, hb1⟩
  obtain ⟨ad', cap', rfl, _⟩ := id hv
  obtain ⟨hB1, hz1, xr⟩ := box_keep hb1
  simp only [List.tail_cons, List.length_singleton] at *
  have HPV := Lib.hid hv
  have HBV := Lib.hid hb1
  clear hb1 hv
  go_wp2_with fail
  refine (HS1.out _).mono ?_
  rintro e w2 ⟨rfl, hb2⟩
  obtain ⟨hB2, hz2, xt⟩ := box_keep hb2
  replace xr := (hB2.block _ (by omega)).trans xr
  have HB := Lib.hid (hB1.trans (hB2.mono (by omega)))
  replace HBV := Lib.hid (HBV.out.trans (hB2.mono HBV.out.size))
  have t0 : w2.cell? ⟨w1.heap.size, 0, none⟩ = some (.int .i64 3) := blk_cell xt rfl
  have t1 : w2.cell? ⟨w1.heap.size, 1, none⟩ = some (.int .i64 sn) := blk_cell xt rfl
  have t2 : w2.cell? ⟨w1.heap.size, 2, none⟩ = some (.string ⟨#[64]⟩) := blk_cell xt rfl
  have XR := Lib.hid xr
  have XT := Lib.hid xt
  clear hb2 hB2 hB1 xr xt HS1
  go_wp2_with fail
  refine (HS2.out _).mono ?_
  rintro e w3 ⟨rfl, hb3⟩
  have xt3 := (hb3.block _ (blk_lt XT.out)).trans XT.out
  replace XR := Lib.hid ((hb3.block _ (blk_lt XR.out)).trans XR.out)
  replace HB := Lib.hid (HB.out.trans (hb3.mono HB.out.size))
  replace HBV := Lib.hid (HBV.out.trans (hb3.mono HBV.out.size))
  replace t0 : w3.cell? ⟨w1.heap.size, 0, none⟩ = some (.int .i64 3) := blk_cell xt3 rfl
  replace t1 : w3.cell? ⟨w1.heap.size, 1, none⟩ = some (.int .i64 sn) := blk_cell xt3 rfl
  replace t2 : w3.cell? ⟨w1.heap.size, 2, none⟩ = some (.string ⟨#[64]⟩) := blk_cell xt3 rfl
  have hz3 := blk_lt xt3
  replace XT := Lib.hid xt3
  clear hb3 xt3 HS2
  go_wp2_with fail
  refine (HS3.out _).mono ?_
  rintro e w4 ⟨rfl, hb4⟩
  have xt4 := (hb4.block _ (blk_lt XT.out)).trans XT.out
  replace XR := Lib.hid ((hb4.block _ (blk_lt XR.out)).trans XR.out)
  replace HB := Lib.hid (HB.out.trans (hb4.mono HB.out.size))
  replace HBV := Lib.hid (HBV.out.trans (hb4.mono HBV.out.size))
  replace t0 : w4.cell? ⟨w1.heap.size, 0, none⟩ = some (.int .i64 3) := blk_cell xt4 rfl
  replace t1 : w4.cell? ⟨w1.heap.size, 1, none⟩ = some (.int .i64 sn) := blk_cell xt4 rfl
  replace t2 : w4.cell? ⟨w1.heap.size, 2, none⟩ = some (.string ⟨#[64]⟩) := blk_cell xt4 rfl
  have hz4 := blk_lt xt4
  clear hb4 xt4 HS3 XT
  go_wp2_with fail
  refine (HE0.out _ _ HB.out (HPV.out.below HBV.out (Nat.le_refl _))).mono ?_
  rintro e w6 ⟨rfl, hb6⟩
  obtain ⟨⟨⟨u0, u1⟩, u2, u3⟩, ⟨f0, f1⟩, f2, f3⟩ := var4_of ((hb6.block _ (blk_lt XR.out)).trans XR.out)
  have hz6 : w.heap.size < w6.heap.size := Nat.lt_of_lt_of_le (blk_lt XR.out) hb6.size
  replace HB := Lib.hid (HB.out.trans (hb6.mono HB.out.size))
  clear hb6
  go_wp2_with fail
  exact bodyPost_ret (v := .tuple #[.agg #[.string ⟨#[64]⟩, .int .i64 rg, .string ⟨#[]⟩, .int .i64 0], .int .i64 0]) (by simp [results, Tryz.results131, go_sem, u0, u1, u2, u3]) rfl ⟨rfl, (((HB.out.setCell (Nat.le_refl _) _).setCell (Nat.le_refl _) _).setCell (Nat.le_refl _) _).setCell (Nat.le_refl _) _⟩

end Go.Proofs.YtgjmbjahgcndnaaGreatDoor

namespace Go.Proofs.YtgjmbjahgcndnaaGreatDoor
open Go.RowKit

theorem kind_neg (w : World) (hL : Xp.KLaid w) : Calls Tryz.prog 249 #[.agg #[.int .i64 3, .int .i64 0, .string ⟨#[45]⟩], .int .i64 1] w fun e w' => e = .returned (.int .i64 3) ∧ Below w.heap.size w w' := by
  have := Xp.kindOf_any ⟨3, 0, [45]⟩ 1 w hL
  rwa [show Xp.kindT 1 ⟨3, 0, [45]⟩ = 3 by decide] at this
theorem one_neg (n : Int) (w : World) : Calls Tryz.prog 265 #[.int .i64 3, .agg #[.string ⟨#[]⟩, .int .i64 n]] w fun e w' => e = .returned (.tuple #[.agg #[.string ⟨#[]⟩, .int .i64 (wrap32 (-n))], .int .i64 0]) ∧ Below w.heap.size w w' := by
  have := Xp.ofOne_any 3 ⟨[], n⟩ w (.inl rfl)
  rw [if_pos rfl, if_neg (by decide)] at this
  exact this

theorem neg_end {w w3 : World} {g q : Nat} {a : ByteArray} {b : Bool} {ev : Value} {u : Bool} {e : Int} (h : PR w g q a b ev u e false ⟨#[]⟩ 0) (hb : Below w.heap.size w w3) (x y : Value) :
    PR (((w3.setCell ⟨w.heap.size, 0, none⟩ x).setCell ⟨w.heap.size, 1, none⟩ y).setCell ⟨g, 5, none⟩ (.bool u)) g q a b ev u e false ⟨#[]⟩ 0 ∧ F2 g q w (((w3.setCell ⟨w.heap.size, 0, none⟩ x).setCell ⟨w.heap.size, 1, none⟩ y).setCell ⟨g, 5, none⟩ (.bool u)) := by
  have hg := blk_lt h.pt
  have hq := blk_lt h.ch
  have hb2 : Below w.heap.size w ((w3.setCell ⟨w.heap.size, 0, none⟩ x).setCell ⟨w.heap.size, 1, none⟩ y) := (hb.setCell (Nat.le_refl _) _).setCell (Nat.le_refl _) _
  have h2 := h.go hb2
  refine ⟨⟨?_, ?_⟩, (F2.below hb2).trans (F2.left (gset _ g 5 _))⟩
  · exact blk_set h2.pt
  · rw [Below.heap_setCell _ _ _ _ h2.ne.symm]
    exact h2.ch

set_option maxHeartbeats 4000000 in
set_option maxRecDepth 100000 in
theorem put_neg (g q : Nat) (b : Bool) (ev : Value) (u : Bool) (e : Int) (n : Int) (w : World) (hL : Xp.KLaid w) (h : PR w g q ⟨#[45]⟩ b ev u e false ⟨#[]⟩ 0) :
    Calls Tryz.prog 255 #[.pointer (some ⟨g, 0, none⟩), .agg #[.string ⟨#[]⟩, .int .i64 n]] w fun r w' => r = .returned (.tuple #[]) ∧ PR w' g q ⟨#[]⟩ true ev u e true ⟨#[]⟩ (wrap32 (-n)) ∧ F2 g q w w' := by
  have c0 : w.cell? ⟨g, 0, none⟩ = some (.string ⟨#[45]⟩) := blk_cell h.pt rfl
  have hq := blk_lt h.pt
  have HW := Lib.hid (within_any ⟨#[45]⟩ (.inr rfl))
  have HK := Lib.hid fun W (hb : Below w.heap.size w W) => kind_neg W (KL.below hL hb)
  have HO := Lib.hid fun W => one_neg n W
  have HP := Lib.hid fun W (hp : PR W g q ⟨#[45]⟩ b ev u e false ⟨#[]⟩ 0) => putWhole_any g q ⟨#[45]⟩ (.inr rfl) b ev u e ⟨#[]⟩ (wrap32 (-n)) W hp
  have H := Lib.hid h
  clear h hL
  go_enter Tryz.func255, Tryz.ntmps255
  go_wp2_with (go_at_call 258; refine (HW.out _).mono ?_; rintro e w1 ⟨rfl, rfl⟩)
  refine wp_loop_rounds 2 ?_
  rw [rounds_succ]
  go_wp2_with fail
  have hbx : (w.alloc (.cells #[.string ⟨#[]⟩, .int .i64 n] 201)).heap[w.heap.size]? = some (.cells #[.string ⟨#[]⟩, .int .i64 n] 201 (0, 0)) := new_at _ _ rfl
  have hb1 : Below w.heap.size w (w.alloc (.cells #[.string ⟨#[]⟩, .int .i64 n] 201)) := oalloc _ _
  have hsz : (w.alloc (.cells #[.string ⟨#[]⟩, .int .i64 n] 201)).heap.size = w.heap.size + 1 := by simp
  generalize w.alloc (.cells #[.string ⟨#[]⟩, .int .i64 n] 201) = W1 at *
  have hg := hb1.size
  have k0 : W1.cell? ⟨g, 0, none⟩ = some (.string ⟨#[45]⟩) := (hb1.cell (by exact hq)).trans c0
  have k1 : W1.cell? ⟨w.heap.size, 0, none⟩ = some (.string ⟨#[]⟩) := blk_cell hbx rfl
  have k2 : W1.cell? ⟨w.heap.size, 1, none⟩ = some (.int .i64 n) := blk_cell hbx rfl
  have HX := Lib.hid hbx
  have HB1 := Lib.hid hb1
  have HSZ := Lib.hid hsz
  clear hbx hb1 hg hsz
  go_region_with (first | (go_at_call 249; refine (HK.out _ (HB1.out.drew)).mono ?_; rintro e w2 ⟨rfl, hb2⟩; have HBA := Lib.hid ((HB1.out.drew).trans (hb2.mono HB1.out.size)); have hX2 := (hb2.block _ (blk_lt HX.out)).trans HX.out; have m1 : w2.cell? ⟨w.heap.size, 0, none⟩ = some (.string ⟨#[]⟩) := blk_cell hX2 rfl; have m2 : w2.cell? ⟨w.heap.size, 1, none⟩ = some (.int .i64 n) := blk_cell hX2 rfl; have HX2 := Lib.hid hX2; have HB2 := Lib.hid hb2; clear hX2 hb2) | (go_at_call 265; refine (HO.out _).mono ?_; rintro e w3 ⟨rfl, hb3⟩; have HBC := Lib.hid (HBA.out.trans (hb3.mono HBA.out.size)); have hP3 := (H.out.go HBC.out).pt; have p5 : w3.cell? ⟨g, 5, none⟩ = some (.bool u) := blk_cell hP3 rfl; have pf5 : w3.frozen? ⟨g, 5, none⟩ = false := blk_froz hP3; have pg : g < w3.heap.size := blk_lt hP3; clear hP3; have hX3 := (hb3.block _ (blk_lt HX2.out)).trans HX2.out; have q1 : w3.frozen? ⟨w.heap.size, 0, none⟩ = false := blk_froz hX3; have q2 : w3.frozen? ⟨w.heap.size, 1, none⟩ = false := blk_froz hX3; have n1 : w3.cell? ⟨w.heap.size, 0, none⟩ = some (.string ⟨#[]⟩) := blk_cell hX3 rfl; have n2 : w3.cell? ⟨w.heap.size, 1, none⟩ = some (.int .i64 n) := blk_cell hX3 rfl; have HX3 := Lib.hid hX3; have HB3 := Lib.hid hb3; clear hX3 hb3))
  all_goals cases u
  all_goals
    go_wp2_with fail
  all_goals
    rw [rounds_succ]
    go_wp2_with fail
  all_goals
    obtain ⟨hP4, hF4⟩ := neg_end H.out HBC.out (.string ⟨#[]⟩) (.int .i64 (wrap32 (-n)))
    refine (HP.out _ hP4).mono ?_
    rintro e' w5 ⟨rfl, hp5, hf5⟩
    go_wp2_with fail
    exact bodyPost_end (v := .tuple #[]) (by simp [results, Tryz.results255, go_sem]) rfl ⟨rfl, hp5, hF4.trans hf5⟩

end Go.Proofs.YtgjmbjahgcndnaaGreatDoor

namespace Go.Proofs.YtgjmbjahgcndnaaGreatDoor
open Go.RowKit

set_option maxHeartbeats 2000000 in
/-- A number behind a sign. -/
theorem next_neg (g q : Nat) (u : Bool) (n : Int) (t : ByteArray) (w : World) (hL : Xp.KLaid w) (h : PR w g q ⟨#[45]⟩ false (.slice none 0 0) u 0 false ⟨#[]⟩ 0) :
    Calls Tryz.prog 241 #[.pointer (some ⟨g, 0, none⟩), tokV 2 n t] w fun r w' => r = .returned (.int .i64 0) ∧ PR w' g q ⟨#[]⟩ true (.slice none 0 0) u 0 true ⟨#[]⟩ (wrap32 (-wrap32 n)) ∧ F2 g q w w' := by
  have c2 : w.cell? ⟨g, 2, none⟩ = some (.slice none 0 0) := blk_cell h.pt rfl
  have hg := blk_lt h.pt
  have HK : Hid (∀ W, Below w.heap.size w W → Calls Tryz.prog 249 #[tokV 2 n t, .int .i64 1] W fun e w' => e = .returned (.int .i64 0) ∧ Below W.heap.size W w') := fun W hb => by
    have := Xp.kindOf_any (xtok 2 n t) 1 W (KL.below hL hb)
    simpa [xtok, tokV, Xp.kindT, Xp.kindFromT, Xp.signT] using this
  have HS : Hid (∀ W, Calls Tryz.prog 251 #[tokV 2 n t, .string ⟨#[40]⟩] W fun e w' => e = .returned (.bool false) ∧ Below W.heap.size W w') := fun W => by
    have := Xp.isSign_any (xtok 2 n t) ⟨#[40]⟩ W
    simpa [xtok, tokV, Xp.signT] using this
  have HF := Lib.hid fun W => leaf_num n t W
  have HE := Lib.hid fun W (hb : Below w.heap.size w W) => eval_num (wrap32 n) W (KL.below hL hb)
  have HP := Lib.hid fun W (hb : Below w.heap.size w W) => put_neg g q false (.slice none 0 0) u 0 (wrap32 n) W (KL.below hL hb) (h.go hb)
  have HO := Lib.hid h
  try simp only [wrap32_two] at HE
  clear h hL
  unfold tokV at *
  go_enter Tryz.func241, Tryz.ntmps241
  go_wp2_with fail
  refine (HK.out _ (oalloc _ _)).mono ?_
  rintro e w1 ⟨rfl, hb1⟩
  obtain ⟨hb, hz1, xr⟩ := box_keep hb1
  clear hb1 HK
  have x0 : w1.cell? ⟨w.heap.size, 0, none⟩ = some (.int .i64 2) := blk_cell xr rfl
  have x1 : w1.cell? ⟨w.heap.size, 1, none⟩ = some (.int .i64 n) := blk_cell xr rfl
  have x2 : w1.cell? ⟨w.heap.size, 2, none⟩ = some (.string t) := blk_cell xr rfl
  have HB := Lib.hid hb
  clear hb xr
  go_wp2_with fail
  refine (HS.out _).mono ?_
  rintro e w2 ⟨rfl, hb2⟩
  replace x0 := (hb2.cell (by show w.heap.size < w1.heap.size; omega)).trans x0
  replace x1 := (hb2.cell (by show w.heap.size < w1.heap.size; omega)).trans x1
  replace x2 := (hb2.cell (by show w.heap.size < w1.heap.size; omega)).trans x2
  replace HB := Lib.hid (HB.out.trans (hb2.mono (by omega)))
  have hz2 := Nat.lt_of_lt_of_le hz1 hb2.size
  clear hb2 hz1
  go_wp2_with fail
  refine (HF.out _).mono ?_
  rintro e w3 ⟨rfl, hb3⟩
  replace HB := Lib.hid (HB.out.trans (hb3.mono (by omega)))
  have hz3 := Nat.lt_of_lt_of_le hz2 hb3.size
  have y2 := (HB.out.cell (by show g < w.heap.size; exact hg)).trans c2
  have hg3 : g < w3.heap.size := by omega
  clear hb3 hz2 x0 x1 x2
  go_wp2_with fail
  go_region_with (go_at_call 254; refine (HE.out _ (HB.out.trans (Below.drew (by go_grown)))).mono ?_; rintro e w4 ⟨rfl, hb4⟩; have HB4 : Hid (Below w.heap.size w w4) := (by refine Below.trans ?_ (hb4.mono (by go_size)); have hb := HB.out; go_grown); have hz4 : w3.heap.size < w4.heap.size := Nat.lt_of_lt_of_le (by go_size) hb4.size; first | (have zr : w4.heap[w3.heap.size + 1]? = some (.cells #[.string ⟨#[]⟩, .int .i64 0] 201 (0, 0)) := (hb4.block _ (by simp)).trans (new_at _ _ (by simp)); obtain ⟨⟨z0, z1⟩, f0, f1⟩ := Xp.var2_of zr; have hz4 := blk_lt zr; clear zr hb4) | clear hb4)
  all_goals
    go_wp2_with (go_at_call 255; refine (HP.out _ (by have hb := HB4.out; go_grown)).mono ?_; rintro e w5 ⟨rfl, hp5, hb5⟩)
    go_returns
    refine ⟨rfl, hp5, F2.trans (F2.below ?_) hb5⟩
    have hb := HB4.out
    go_grown


theorem begin_neg (g q : Nat) (u : Bool) (w : World) (h : PR w g q ⟨#[]⟩ false (.slice none 0 0) u 0 false ⟨#[]⟩ 0) :
    Calls Tryz.prog 252 #[.pointer (some ⟨g, 0, none⟩), .string ⟨#[45]⟩] w fun r w' => r = .returned (.int .i64 0) ∧ PR w' g q ⟨#[45]⟩ false (.slice none 0 0) u 0 false ⟨#[]⟩ 0 ∧ F2 g q w w' := by
  have c0 : w.cell? ⟨g, 0, none⟩ = some (.string ⟨#[]⟩) := blk_cell h.pt rfl
  have f0 := blk_froz h.pt (i := 0)
  have hg := blk_lt h.pt
  have H := Lib.hid h
  clear h
  go_enter Tryz.func252, Tryz.ntmps252
  go_wp2
  go_ret
  refine ⟨rfl, ⟨blk_set H.out.pt, ?_⟩, F2.left (gset w g 0 _)⟩
  rw [Below.heap_setCell _ _ _ _ H.out.ne.symm]
  exact H.out.ch
set_option maxHeartbeats 2000000 in
theorem next_sign (g q : Nat) (u : Bool) (w : World) (hL : Xp.KLaid w) (h : PR w g q ⟨#[]⟩ false (.slice none 0 0) u 0 false ⟨#[]⟩ 0) :
    Calls Tryz.prog 241 #[.pointer (some ⟨g, 0, none⟩), tokV 3 0 ⟨#[45]⟩] w fun r w' => r = .returned (.int .i64 0) ∧ PR w' g q ⟨#[45]⟩ false (.slice none 0 0) u 0 false ⟨#[]⟩ 0 ∧ F2 g q w w' := by
  have HK := Lib.hid fun W (hb : Below w.heap.size w W) => kind_neg W (KL.below hL hb)
  have HB := Lib.hid fun W (hb : Below w.heap.size w W) => begin_neg g q u W (h.go hb)
  clear h hL
  unfold tokV at *
  go_enter Tryz.func241, Tryz.ntmps241
  go_wp2_with fail
  refine (HK.out _ (oalloc _ _)).mono ?_
  rintro e w1 ⟨rfl, hb1⟩
  obtain ⟨hb, hz1, xr⟩ := box_keep hb1
  have x2 : w1.cell? ⟨w.heap.size, 2, none⟩ = some (.string ⟨#[45]⟩) := blk_cell xr rfl
  have HB1 := Lib.hid hb
  clear hb xr hb1
  go_wp2_with (go_at_call 252; refine (HB.out _ HB1.out).mono ?_; rintro e w2 ⟨rfl, h2, h3⟩)
  go_returns
  exact ⟨rfl, h2, (F2.below HB1.out).trans h3⟩

theorem add_sign (g q : Nat) (u : Bool) (w : World) (hL : Xp.KLaid w) (h : PR w g q ⟨#[]⟩ false (.slice none 0 0) u 0 false ⟨#[]⟩ 0) :
    Calls Tryz.prog 220 #[.pointer (some ⟨g, 0, none⟩), tokV 3 0 ⟨#[45]⟩] w fun r w' => r = .returned (.tuple #[]) ∧ PR w' g q ⟨#[45]⟩ false (.slice none 0 0) u 0 false ⟨#[]⟩ 0 ∧ F2 g q w w' := by
  have c1 : w.cell? ⟨g, 1, none⟩ = some (.bool false) := blk_cell h.pt rfl
  have c6 : w.cell? ⟨g, 6, none⟩ = some (.int .i64 0) := blk_cell h.pt rfl
  have hg := blk_lt h.pt
  have HN := Lib.hid fun W (hb : Below w.heap.size w W) => next_sign g q u W (KL.below hL hb) (h.go hb)
  clear h hL
  unfold tokV at *
  go_enter Tryz.func220, Tryz.ntmps220
  go_wp2_with fail
  refine (HN.out _ (oalloc _ _)).mono ?_
  rintro e w1 ⟨rfl, hp1, hb1⟩
  have d6 : w1.cell? ⟨g, 6, none⟩ = some (.int .i64 0) := blk_cell hp1.pt rfl
  have f6 : w1.frozen? ⟨g, 6, none⟩ = false := blk_froz hp1.pt
  have hg1 := blk_lt hp1.pt
  have HP1 := Lib.hid hp1
  have HB1 := Lib.hid hb1
  clear hp1 hb1
  go_wp2
  refine bodyPost_end (v := .tuple #[]) (by simp [results, Tryz.results220, go_sem]) rfl ⟨rfl, ?_, ?_⟩
  · exact HP1.out.go (same_set HP1.out.pt rfl)
  · exact ((F2.below (oalloc _ _)).trans HB1.out).trans (F2.below (same_set HP1.out.pt rfl))


theorem add_num2 (g q : Nat) (u : Bool) (n : Int) (t : ByteArray) (w : World) (hL : Xp.KLaid w) (h : PR w g q ⟨#[45]⟩ false (.slice none 0 0) u 0 false ⟨#[]⟩ 0) :
    Calls Tryz.prog 220 #[.pointer (some ⟨g, 0, none⟩), tokV 2 n t] w fun r w' => r = .returned (.tuple #[]) ∧ PR w' g q ⟨#[]⟩ true (.slice none 0 0) u 0 true ⟨#[]⟩ (wrap32 (-wrap32 n)) ∧ F2 g q w w' := by
  have c1 : w.cell? ⟨g, 1, none⟩ = some (.bool false) := blk_cell h.pt rfl
  have c6 : w.cell? ⟨g, 6, none⟩ = some (.int .i64 0) := blk_cell h.pt rfl
  have hg := blk_lt h.pt
  have HN := Lib.hid fun W (hb : Below w.heap.size w W) => next_neg g q u n t W (KL.below hL hb) (h.go hb)
  clear h hL
  unfold tokV at *
  go_enter Tryz.func220, Tryz.ntmps220
  go_wp2_with fail
  refine (HN.out _ (oalloc _ _)).mono ?_
  rintro e w1 ⟨rfl, hp1, hb1⟩
  have d6 : w1.cell? ⟨g, 6, none⟩ = some (.int .i64 0) := blk_cell hp1.pt rfl
  have f6 : w1.frozen? ⟨g, 6, none⟩ = false := blk_froz hp1.pt
  have hg1 := blk_lt hp1.pt
  have HP1 := Lib.hid hp1
  have HB1 := Lib.hid hb1
  clear hp1 hb1
  go_wp2
  refine bodyPost_end (v := .tuple #[]) (by simp [results, Tryz.results220, go_sem]) rfl ⟨rfl, ?_, ?_⟩
  · exact HP1.out.go (same_set HP1.out.pt rfl)
  · exact ((F2.below (oalloc _ _)).trans HB1.out).trans (F2.below (same_set HP1.out.pt rfl))


end Go.Proofs.YtgjmbjahgcndnaaGreatDoor
