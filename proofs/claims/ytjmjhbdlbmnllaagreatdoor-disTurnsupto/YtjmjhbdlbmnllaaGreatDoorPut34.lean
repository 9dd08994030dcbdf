/- asm: an operand '@' and a register. asm: lines without labels; an item added. asm: a unit's items in memory; numbers kept. asm: the numbers of .byte, .word and .long. asm: the form of operands. -/
import Derived.Test.YtjmjhbdlbmnllaaGreatDoorPut33
import Derived.Test.YtjmjhbdlbmnllaaGreatDoorDsShelf
import Derived.Shelf.Strings.BuilderK
namespace Go.Proofs.YtjmjhbdlbmnllaaGreatDoor
open Go.RowKit

set_option maxHeartbeats 2000000 in
theorem operand_at (gu : Nat) (v : Value) (sn : Int) (x : Tk) (w : World) (hG : Sc.Glob w) (h : PReads w v [⟨3, sn, ⟨#[64]⟩⟩, x]) (hx : x.k = 1) (hr : 0 ≤ regU 1 x.t.data.toList) :
    Calls Tryz.prog 99 #[.pointer (some ⟨gu, 0, none⟩), v] w fun r w' => r = .returned (.tuple #[opV ⟨#[64]⟩ (regU 1 x.t.data.toList) ⟨#[]⟩ 0, .int .i64 0]) ∧ Below w.heap.size w w' := by
  have HN := Lib.hid fun W (hb : Below w.heap.size w W) => next_any v [⟨3, sn, ⟨#[64]⟩⟩, x] W (h.below hb (Nat.le_refl _))
  have HE0 := Lib.hid fun v' W (hb : Below w.heap.size w W) (hv : PReads W v' [x]) => lone_any ⟨#[64]⟩ v' x W (hG.below hb hG.sz) hv hx hr
  have HS1 : Hid (∀ W, Calls Tryz.prog 93 #[tokV 3 sn ⟨#[64]⟩, .string ⟨#[35]⟩] W fun r w' => r = .returned (.bool false) ∧ Below W.heap.size W w') := fun W => by
    have := asign_any 3 sn ⟨#[64]⟩ ⟨#[35]⟩ W
    rwa [show ((3 : Int) == 3 && (⟨#[64]⟩ : ByteArray).toList == (⟨#[35]⟩ : ByteArray).toList) = false by simp [ByteArray.toList_eq]] at this
  have HS2 : Hid (∀ W, Calls Tryz.prog 93 #[tokV 3 sn ⟨#[64]⟩, .string ⟨#[61]⟩] W fun r w' => r = .returned (.bool false) ∧ Below W.heap.size W w') := fun W => by
    have := asign_any 3 sn ⟨#[64]⟩ ⟨#[61]⟩ W
    rwa [show ((3 : Int) == 3 && (⟨#[64]⟩ : ByteArray).toList == (⟨#[61]⟩ : ByteArray).toList) = false by simp [ByteArray.toList_eq]] at this
  have HS3 : Hid (∀ W, Calls Tryz.prog 93 #[tokV 3 sn ⟨#[64]⟩, .string ⟨#[64]⟩] W fun r w' => r = .returned (.bool true) ∧ Below W.heap.size W w') := fun W => by
    have := asign_any 3 sn ⟨#[64]⟩ ⟨#[64]⟩ W
    rwa [show ((3 : Int) == 3 && (⟨#[64]⟩ : ByteArray).toList == (⟨#[64]⟩ : ByteArray).toList) = true by simp] at this
  obtain ⟨ad, cap, rfl, _⟩ := h
  clear hG
  generalize regU 1 x.t.data.toList = rg at *
  unfold opV at *
  unfold Tk.V tokV headT at *
  simp only [List.length_cons, List.length_nil] at *
  go_enter Tryz.func99, Tryz.ntmps99
  go_wp2_with fail
  refine (HN.out _ (oalloc _ _)).mono ?_
  rintro e w1 ⟨⟨v', rfl, hv⟩, hb1⟩
  obtain ⟨ad', cap', rfl, _⟩ := id hv
  obtain ⟨hB1, hz1, xr⟩ := box_keep hb1
  simp only [List.tail_cons, List.length_singleton] at *
  have HPV := Lib.hid hv
  have HBV := Lib.hid hb1
  clear hb1 hv
  go_wp2_with fail
  refine (HS1.out _).mono ?_
  rintro e w2 ⟨rfl, hb2⟩
  obtain ⟨hB2, hz2, xt⟩ := box_keep hb2
  replace xr := (hB2.block _ (by omega)).trans xr
  have HB := Lib.hid (hB1.trans (hB2.mono (by omega)))
  replace HBV := Lib.hid (HBV.out.trans (hB2.mono HBV.out.size))
  have t0 : w2.cell? ⟨w1.heap.size, 0, none⟩ = some (.int .i64 3) := blk_cell xt rfl
  have t1 : w2.cell? ⟨w1.heap.size, 1, none⟩ = some (.int .i64 sn) := blk_cell xt rfl
  have t2 : w2.cell? ⟨w1.heap.size, 2, none⟩ = some (.string ⟨#[64]⟩) := blk_cell xt rfl
  have XR := Lib.hid xr
  have XT := Lib.hid xt
  clear hb2 hB2 hB1 xr xt HS1
  go_wp2_with fail
  refine (HS2.out _).mono ?_
  rintro e w3 ⟨rfl, hb3⟩
  have xt3 := (hb3.block _ (blk_lt XT.out)).trans XT.out
  replace XR := Lib.hid ((hb3.block _ (blk_lt XR.out)).trans XR.out)
  replace HB := Lib.hid (HB.out.trans (hb3.mono HB.out.size))
  replace HBV := Lib.hid (HBV.out.trans (hb3.mono HBV.out.size))
  replace t0 : w3.cell? ⟨w1.heap.size, 0, none⟩ = some (.int .i64 3) := blk_cell xt3 rfl
  replace t1 : w3.cell? ⟨w1.heap.size, 1, none⟩ = some (.int .i64 sn) := blk_cell xt3 rfl
  replace t2 : w3.cell? ⟨w1.heap.size, 2, none⟩ = some (.string ⟨#[64]⟩) := blk_cell xt3 rfl
  have hz3 := blk_lt xt3
  replace XT := Lib.hid xt3
  clear hb3 xt3 HS2
  go_wp2_with fail
  refine (HS3.out _).mono ?_
  rintro e w4 ⟨rfl, hb4⟩
  have xt4 := (hb4.block _ (blk_lt XT.out)).trans XT.out
  replace XR := Lib.hid ((hb4.block _ (blk_lt XR.out)).trans XR.out)
  replace HB := Lib.hid (HB.out.trans (hb4.mono HB.out.size))
  replace HBV := Lib.hid (HBV.out.trans (hb4.mono HBV.out.size))
  replace t0 : w4.cell? ⟨w1.heap.size, 0, none⟩ = some (.int .i64 3) := blk_cell xt4 rfl
  replace t1 : w4.cell? ⟨w1.heap.size, 1, none⟩ = some (.int .i64 sn) := blk_cell xt4 rfl
  replace t2 : w4.cell? ⟨w1.heap.size, 2, none⟩ = some (.string ⟨#[64]⟩) := blk_cell xt4 rfl
  have hz4 := blk_lt xt4
  clear hb4 xt4 HS3 XT
  go_wp2_with fail
  refine (HE0.out _ _ HB.out (HPV.out.below HBV.out (Nat.le_refl _))).mono ?_
  rintro e w6 ⟨rfl, hb6⟩
  obtain ⟨⟨⟨u0, u1⟩, u2, u3⟩, ⟨f0, f1⟩, f2, f3⟩ := var4_of ((hb6.block _ (blk_lt XR.out)).trans XR.out)
  have hz6 : w.heap.size < w6.heap.size := Nat.lt_of_lt_of_le (blk_lt XR.out) hb6.size
  replace HB := Lib.hid (HB.out.trans (hb6.mono HB.out.size))
  clear hb6
  go_wp2_with fail
  exact bodyPost_ret (v := .tuple #[.agg #[.string ⟨#[64]⟩, .int .i64 rg, .string ⟨#[]⟩, .int .i64 0], .int .i64 0]) (by simp [results, Tryz.results99, go_sem, u0, u1, u2, u3]) rfl ⟨rfl, (((HB.out.setCell (Nat.le_refl _) _).setCell (Nat.le_refl _) _).setCell (Nat.le_refl _) _).setCell (Nat.le_refl _) _⟩

end Go.Proofs.YtjmjhbdlbmnllaaGreatDoor

namespace Go.Proofs.YtjmjhbdlbmnllaaGreatDoor
open Go.RowKit

/-- A unit's cells. -/
def uC (e : Value) (ln : Int) (nv lm iv pp pv rv : Value) : Array Value := #[e, .int .i64 ln, nv, lm, iv, pp, pv, rv]
theorem infoIt : (Tryz.prog.info? 140).map (fun i => (i.zero, i.size, i.bytes)) = some (some (.agg #[.int .i64 0, .int .i64 0, .int .i64 0, .int .i64 0, .nilFunc, .nilFunc]), 6, 48) := by kernel_rfl

set_option maxHeartbeats 2000000 in
theorem add_any (gu B n : Nat) (e nv lm iv pp pv rv fa by' : Value) (ln li si up al : Int) (xs : List Value) (w : World) (hB : B ≤ w.heap.size) (hu : w.heap[gu]? = some (.cells (uC e ln nv lm iv pp pv rv) 90 (0, 0))) (hr : w.ownsRow B 140 6 iv n xs) (hgB : gu < B) (hn : n ≤ 100000) (hf1 : fa = .nilFunc ∨ ∃ a b c, fa = .func a b c) (hb1 : ∃ a b c, by' = .func a b c) :
    Calls Tryz.prog 57 #[.pointer (some ⟨gu, 0, none⟩), itV li si up al fa by'] w fun r w' => r = .returned (.tuple #[]) ∧
      (∃ iv', w'.heap[gu]? = some (.cells (uC e ln nv lm iv' pp pv rv) 90 (0, 0)) ∧ w'.ownsRow B 140 6 iv' (n + 1) (xs ++ [.int .i64 ln, .int .i64 si, .int .i64 up, .int .i64 al, fa, by'])) ∧ Fr gu B w w' ∧ (∀ i, i < w.heap.size → i ≠ gu → some i ≠ iv.ownBlock → w'.heap[i]? = w.heap[i]?) := by
  obtain ⟨la, lc, rfl⟩ := row_shape hr
  have c1 : w.cell? ⟨gu, 1, none⟩ = some (.int .i64 ln) := blk_cell hu rfl
  have c4 : w.cell? ⟨gu, 4, none⟩ = some (.slice la n lc) := blk_cell hu rfl
  have hg := blk_lt hu
  have hof : fa.oneCell' = true := by rcases hf1 with rfl | ⟨a, b, c, rfl⟩ <;> rfl
  have hob : by'.oneCell' = true := by obtain ⟨a, b, c, rfl⟩ := hb1; rfl
  have hrow : (((w.alloc (.cells #[.int .i64 ln, .int .i64 si, .int .i64 up, .int .i64 al, fa, by'] 140)).alloc (.cells #[.int .i64 ln, .int .i64 si, .int .i64 up, .int .i64 al, fa, by'] 140)).drew).ownsRow B 140 6 (.slice la n lc) n xs := (hr.alloc _).alloc _
  obtain ⟨v', w', happ, hr', hgr⟩ := app1 87 140 _ 6 48 Tryz.underlying87 infoIt rfl (by decide) (by decide) hrow (by simp; omega) [.int .i64 ln, .int .i64 si, .int .i64 up, .int .i64 al, fa, by'] rfl (w.heap.size + 1) (new_at _ _ (by simp)) (by intro u hu; simp at hu; rcases hu with rfl | rfl | rfl | rfl | rfl | rfl <;> first | rfl | assumption) (by omega)
  obtain ⟨la', lc', rfl⟩ := row_shape hr'
  have hbox : (((w.alloc (.cells #[.int .i64 ln, .int .i64 si, .int .i64 up, .int .i64 al, fa, by'] 140)).alloc (.cells #[.int .i64 ln, .int .i64 si, .int .i64 up, .int .i64 al, fa, by'] 140)).drew).heap[gu]? = some (.cells (uC e ln nv lm (.slice la n lc) pp pv rv) 90 (0, 0)) := by
    show (World.alloc _ _).heap[gu]? = _
    rw [old2 _ _ (by simp; omega), old2 _ _ hg]
    exact hu
  have hbox' := (hgr.block gu (blk_lt hbox) (row_box hrow hbox (by decide))).trans hbox
  have HF : Hid (Fr gu B w w') := by
    refine Fr.trans (Fr.below (by go_grown)) (Fr.grown hgr (by go_size) ?_)
    intro q hq
    exact .inr (hrow.lt q hq).1
  have HO : Hid (∀ i, i < w.heap.size → i ≠ gu → some i ≠ (Value.slice la n lc).ownBlock → w'.heap[i]? = w.heap[i]?) := fun i hi h1 h2 => by
    rw [hgr.block i (by go_size) h2]
    show (World.alloc _ _).heap[i]? = _
    rw [old2 _ _ (by go_size), old2 _ _ hi]
  have HW : Hid ((w'.setCell ⟨gu, 4, none⟩ (.slice la' (n + 1) lc')).heap[gu]? = some (.cells (uC e ln nv lm (.slice la' (n + 1) lc') pp pv rv) 90 (0, 0)) ∧ (w'.setCell ⟨gu, 4, none⟩ (.slice la' (n + 1) lc')).ownsRow B 140 6 (.slice la' (n + 1) lc') (n + 1) (xs ++ [.int .i64 ln, .int .i64 si, .int .i64 up, .int .i64 al, fa, by'])) := ⟨blk_set hbox', row_set hr' hgB⟩
  have d4 : w'.cell? ⟨gu, 4, none⟩ = some (.slice la n lc) := blk_cell hbox' rfl
  have f4 : w'.frozen? ⟨gu, 4, none⟩ = false := blk_froz hbox'
  have hg' := blk_lt hbox'
  obtain ⟨ba, bb, bc, rfl⟩ := hb1
  clear hrow hr' hgr hbox hbox' hu hr hof hob
  unfold itV
  rcases hf1 with rfl | ⟨fa1, fa2, fa3, rfl⟩
  all_goals
    go_enter Tryz.func57, Tryz.ntmps57
    go_wp2_with fail
    go_region_law (refine step_app1 rfl _ _ _ _ rfl _ _ rfl rfl happ ?_)
    all_goals exact bodyPost_end (v := .tuple #[]) (by simp [results, Tryz.results57, go_sem]) rfl ⟨rfl, ⟨_, HW.out⟩, HF.out.trans (Fr.of (gset w' gu 4 _) (Nat.le_trans hB HF.out.size)), fun i hi h1 h2 => by rw [Below.heap_setCell _ _ _ _ h1]; exact HO.out i hi h1 h2⟩

end Go.Proofs.YtjmjhbdlbmnllaaGreatDoor

namespace Go.Proofs.YtjmjhbdlbmnllaaGreatDoor
open Go.RowKit

/-- The types of what an item's functions keep. -/
def Capt (t : TypeId) : Prop := t ∈ [127, 3, 143, 39, 230, 133, 186, 85]
instance (t : TypeId) : Decidable (Capt t) := by unfold Capt; infer_instance

/-- A function that tells where an instruction leads: a value's place, or a pool's value (told by the pool's block). -/
def GoalR (W : World) (gu : Nat) (tv : Value) : Goal → Prop
  | .val nm n => ∃ gb gl b len c cur, tv = .func (.func 149) #[] #[.pointer (some ⟨gb, 0, none⟩), .pointer (some ⟨gl, 0, none⟩)] ∧ W.heap[gb]? = some (.cells #[.pointer (some ⟨gu, 0, none⟩)] 127 (0, 0)) ∧ W.heap[gl]? = some (.cells #[.slice (some ⟨b, 0, none⟩) (len + 1) c] 133 (0, 0)) ∧ W.heap[b]? = some (.cells cur 186 (0, 0)) ∧ (∃ kd r, cur[0]? = some (.string kd) ∧ cur[1]? = some (.int .i64 r)) ∧ cur[2]? = some (.string ⟨nm.toArray⟩) ∧ cur[3]? = some (.int .i64 n)
  | .slot gp i => ∃ gb gq gi, tv = .func (.func 180) #[] #[.pointer (some ⟨gb, 0, none⟩), .pointer (some ⟨gq, 0, none⟩), .pointer (some ⟨gi, 0, none⟩)] ∧ W.heap[gb]? = some (.cells #[.pointer (some ⟨gu, 0, none⟩)] 127 (0, 0)) ∧ W.heap[gq]? = some (.cells #[.pointer (some ⟨gp, 0, none⟩)] 85 (0, 0)) ∧ W.heap[gi]? = some (.cells #[.int .i64 i] 3 (0, 0))

/-- What the functions of an item keep. -/
def GenR (W : World) (gu : Nat) (x : It) (fa by' : Value) : Prop :=
  match x.gen with
  | .fill => fa = .nilFunc ∧ by' = .func (.func 103) #[] #[]
  | .num nm n => fa = .nilFunc ∧ ∃ gb gs gv, by' = .func (.func 104) #[] #[.pointer (some ⟨gv, 0, none⟩), .pointer (some ⟨gs, 0, none⟩), .pointer (some ⟨gb, 0, none⟩)] ∧ W.heap[gb]? = some (.cells #[.pointer (some ⟨gu, 0, none⟩)] 127 (0, 0)) ∧ W.heap[gs]? = some (.cells #[.int .i64 x.size] 3 (0, 0)) ∧ W.heap[gv]? = some (.cells #[.string ⟨nm.toArray⟩, .int .i64 n] 143 (0, 0))
  | .plain op n m imm => fa = .nilFunc ∧ ∃ gi, by' = .func (.func 183) #[] #[.pointer (some ⟨gi, 0, none⟩)] ∧ W.heap[gi]? = some (.cells #[.int .i64 op, .int .i64 n, .int .i64 m, .int .i64 imm] 39 (0, 0))
  | .lead op n m imm q => ∃ gt gi tv, fa = (if Isa.infoShape op = 4 then .func (.func 178) #[] #[.pointer (some ⟨gt, 0, none⟩)] else .nilFunc) ∧ by' = .func (.func 174) #[] #[.pointer (some ⟨gt, 0, none⟩), .pointer (some ⟨gi, 0, none⟩)] ∧ W.heap[gt]? = some (.cells #[tv] 230 (0, 0)) ∧ W.heap[gi]? = some (.cells #[.int .i64 op, .int .i64 n, .int .i64 m, .int .i64 imm] 39 (0, 0)) ∧ GoalR W gu tv q

/-- Blocks of the types that functions keep are as they were. -/
def KeepU (W W' : World) : Prop := W.heap.size ≤ W'.heap.size ∧ ∀ (q : Nat) (c : Array Value) (t : TypeId) (f : Nat × Nat), W.heap[q]? = some (.cells c t f) → Capt t → W'.heap[q]? = some (.cells c t f)
theorem KeepU.of {W W' : World} (h : Below W.heap.size W W') : KeepU W W' := ⟨h.size, fun q c t f hb _ => by rw [h.block q (blk_lt hb)]; exact hb⟩
theorem GoalR.stays {W W' : World} {gu : Nat} {tv : Value} {q : Goal} (h : GoalR W gu tv q) (k : ∀ {q : Nat} {c : Array Value} {t : TypeId}, W.heap[q]? = some (.cells c t (0, 0)) → Capt t → W'.heap[q]? = some (.cells c t (0, 0))) : GoalR W' gu tv q := by
  cases q with
  | val nm n =>
    obtain ⟨gb, gl, b, len, c, cur, e, h1, h2, h3, h4⟩ := h
    exact ⟨gb, gl, b, len, c, cur, e, k h1 (by decide), k h2 (by decide), k h3 (by decide), h4⟩
  | slot gp i =>
    obtain ⟨gb, gq, gi, e, h1, h2, h3⟩ := h
    exact ⟨gb, gq, gi, e, k h1 (by decide), k h2 (by decide), k h3 (by decide)⟩
theorem GenR.stays {W W' : World} {gu : Nat} {x : It} {fa by' : Value} (h : GenR W gu x fa by') (k : ∀ {q : Nat} {c : Array Value} {t : TypeId}, W.heap[q]? = some (.cells c t (0, 0)) → Capt t → W'.heap[q]? = some (.cells c t (0, 0))) : GenR W' gu x fa by' := by
  unfold GenR at h ⊢
  cases hx : x.gen with
  | fill => rw [hx] at h; exact h
  | num nm n =>
    rw [hx] at h
    obtain ⟨h0, gb, gs, gv, e, a, b, c⟩ := h
    exact ⟨h0, gb, gs, gv, e, k a (by decide), k b (by decide), k c (by decide)⟩
  | plain op n m imm =>
    rw [hx] at h
    obtain ⟨h0, gi, e, a⟩ := h
    exact ⟨h0, gi, e, k a (by decide)⟩
  | lead op n m imm q =>
    rw [hx] at h
    obtain ⟨gt, gi, tv, h0, e, a, b, c⟩ := h
    exact ⟨gt, gi, tv, h0, e, k a (by decide), k b (by decide), c.stays k⟩
theorem GenR.keep {W W' : World} {gu : Nat} {x : It} {fa by' : Value} (h : GenR W gu x fa by') (k : KeepU W W') : GenR W' gu x fa by' := h.stays fun a b => k.2 _ _ _ _ a b
theorem GenR.shape {W : World} {gu : Nat} {x : It} {fa by' : Value} (h : GenR W gu x fa by') : (fa = .nilFunc ∨ ∃ a b c, fa = .func a b c) ∧ ∃ a b c, by' = .func a b c := by
  unfold GenR at h
  cases hx : x.gen with
  | fill => rw [hx] at h; exact ⟨.inl h.1, _, _, _, h.2⟩
  | num nm n => rw [hx] at h; obtain ⟨h0, _, _, _, e, _⟩ := h; exact ⟨.inl h0, _, _, _, e⟩
  | plain op n m imm => rw [hx] at h; obtain ⟨h0, _, e, _⟩ := h; exact ⟨.inl h0, _, _, _, e⟩
  | lead op n m imm q =>
    rw [hx] at h
    obtain ⟨_, _, _, h0, e, _⟩ := h
    refine ⟨?_, _, _, _, e⟩
    rw [h0]
    split
    · exact .inr ⟨_, _, _, rfl⟩
    · exact .inl rfl
/-- An item that is never asked whether it must be long. -/
def NoFar (x : It) : Prop := match x.gen with | .lead op _ _ _ _ => Isa.infoShape op ≠ 4 | _ => True
theorem GenR.noFar {W : World} {gu : Nat} {x : It} {fa by' : Value} (h : GenR W gu x fa by') (hn : NoFar x) : fa = .nilFunc := by
  unfold GenR at h
  unfold NoFar at hn
  cases hx : x.gen with
  | fill => rw [hx] at h; exact h.1
  | num nm n => rw [hx] at h; exact h.1
  | plain op n m imm => rw [hx] at h; exact h.1
  | lead op n m imm q =>
    rw [hx] at h hn
    obtain ⟨_, _, _, h0, _⟩ := h
    rw [h0, if_neg hn]

/-- Items, each with its two functions. -/
def itC (l : List (It × Value × Value)) : List Value := l.flatMap fun p => [.int .i64 p.1.line, .int .i64 p.1.size, .int .i64 p.1.upTo, .int .i64 p.1.align, p.2.1, p.2.2]

/-- A unit in memory: the box, its items, and what the others hold. -/
structure UR (W : World) (B gu : Nat) (e : Value) (ln : Int) (nv lm pp pv rv : Value) (its : List It) : Prop where
  lt : gu < B
  le : B ≤ W.heap.size
  its : ∃ iv l, W.heap[gu]? = some (.cells (uC e ln nv lm iv pp pv rv) 90 (0, 0)) ∧ W.ownsRow B 140 6 iv its.length (itC l) ∧ l.map (·.1) = its ∧ ∀ p, p ∈ l → GenR W gu p.1 p.2.1 p.2.2

theorem UR.go {W W' : World} {B gu : Nat} {e : Value} {ln : Int} {nv lm pp pv rv : Value} {its : List It} (h : UR W B gu e ln nv lm pp pv rv its) (hb : Below W.heap.size W W') : UR W' B gu e ln nv lm pp pv rv its := by
  obtain ⟨iv, l, h1, h2, h3, h4⟩ := h.its
  exact ⟨h.lt, Nat.le_trans h.le hb.size, iv, l, by rw [hb.block _ (blk_lt h1)]; exact h1, Sc.owns_below h2 hb (Nat.le_refl _), h3, fun p hp => (h4 p hp).keep (KeepU.of hb)⟩

/-- A number's item, made. -/
theorem GenR.num {W : World} {gu gb gs gv : Nat} {line size n : Int} {nm : List UInt8} (h1 : W.heap[gb]? = some (.cells #[.pointer (some ⟨gu, 0, none⟩)] 127 (0, 0))) (h2 : W.heap[gs]? = some (.cells #[.int .i64 size] 3 (0, 0))) (h3 : W.heap[gv]? = some (.cells #[.string ⟨nm.toArray⟩, .int .i64 n] 143 (0, 0))) :
    GenR W gu (numI line size nm n) .nilFunc (.func (.func 104) #[] #[.pointer (some ⟨gv, 0, none⟩), .pointer (some ⟨gs, 0, none⟩), .pointer (some ⟨gb, 0, none⟩)]) := ⟨rfl, gb, gs, gv, rfl, h1, h2, h3⟩

theorem opC_at : ∀ (l : List Opd) (i : Nat) (h : i < l.length), (opC l)[i * 4]? = some (.string l[i].kd) ∧ (opC l)[i * 4 + 1]? = some (.int .i64 l[i].r) ∧ (opC l)[i * 4 + 2]? = some (.string l[i].nm) ∧ (opC l)[i * 4 + 3]? = some (.int .i64 l[i].n)
  | [], i, h => by simp at h
  | t :: r, 0, h => by simp [opC]
  | t :: r, i + 1, h => by
    have ih := opC_at r i (by simpa using h)
    have e : opC (t :: r) = [.string t.kd, .int .i64 t.r, .string t.nm, .int .i64 t.n] ++ opC r := by simp [opC]
    rw [e, show (i + 1) * 4 = 4 + i * 4 by omega]
    simp only [List.getElem_cons_succ]
    refine ⟨?_, ?_, ?_, ?_⟩
    · rw [List.getElem?_append_right (by simp)]; simpa using ih.1
    · rw [List.getElem?_append_right (by simp; omega)]; simpa [show 4 + i * 4 + 1 - 4 = i * 4 + 1 by omega] using ih.2.1
    · rw [List.getElem?_append_right (by simp; omega)]; simpa [show 4 + i * 4 + 2 - 4 = i * 4 + 2 by omega] using ih.2.2.1
    · rw [List.getElem?_append_right (by simp; omega)]; simpa [show 4 + i * 4 + 3 - 4 = i * 4 + 3 by omega] using ih.2.2.2

end Go.Proofs.YtjmjhbdlbmnllaaGreatDoor

namespace Go.Proofs.YtjmjhbdlbmnllaaGreatDoor
open Go.RowKit

end Go.Proofs.YtjmjhbdlbmnllaaGreatDoor

namespace Go.Proofs.YtjmjhbdlbmnllaaGreatDoor
open Go.RowKit

/-- Operands that lie in memory. -/
def OpsR (w : World) (oa : Option Addr) (ops : List Opd) : Prop := 0 < ops.length → ∃ b, oa = some ⟨b, 0, none⟩ ∧ ∃ cur, w.heap[b]? = some (.cells cur 186 (0, 0)) ∧ ∀ i (h : i < ops.length), cur[i * 4]? = some (.string ops[i].kd) ∧ cur[i * 4 + 1]? = some (.int .i64 ops[i].r) ∧ cur[i * 4 + 2]? = some (.string ops[i].nm) ∧ cur[i * 4 + 3]? = some (.int .i64 ops[i].n)
theorem OpsR.keep {w w' : World} {oa : Option Addr} {ops : List Opd} (h : OpsR w oa ops) (k : ∀ {q : Nat} {c : Array Value}, w.heap[q]? = some (.cells c 186 (0, 0)) → w'.heap[q]? = some (.cells c 186 (0, 0))) : OpsR w' oa ops := fun h0 => by
  obtain ⟨b, e, cur, h1, h2⟩ := h h0
  exact ⟨b, e, cur, k h1, h2⟩
theorem OpsR.of_row {w : World} {B : Nat} {oa : Option Addr} {oc : Nat} {ops : List Opd} (h : w.ownsRow B 186 4 (.slice oa ops.length oc) ops.length (opC ops)) : OpsR w oa ops := fun h0 => by
  rcases id h.2 with ⟨hv, h1⟩ | ⟨g, cap, cur, hv, _, hgg, _⟩
  · omega
  · injection hv with e1 _ _
    subst e1
    refine ⟨g, rfl, cur, hgg, fun i hi => ?_⟩
    obtain ⟨a, b, c, d⟩ := opC_at ops i hi
    have hadd : ∀ j, (⟨g, 0, none⟩ : Addr).add j = ⟨g, 0 + j, none⟩ := fun j => by unfold Addr.add; split <;> simp_all
    have key : ∀ j v, w.cell? ⟨g, j, none⟩ = some v → cur[j]? = some v := fun j v hv => by simpa [World.cell?, hgg] using hv
    have q0 := h.cells rfl _ _ a
    have q1 := h.cells rfl _ _ b
    have q2 := h.cells rfl _ _ c
    have q3 := h.cells rfl _ _ d
    rw [hadd, Nat.zero_add] at q0 q1 q2 q3
    exact ⟨key _ _ q0, key _ _ q1, key _ _ q2, key _ _ q3⟩

/-- The kinds, one behind the other. -/
def formU (ops : List Opd) : List UInt8 := ops.flatMap fun o => o.kd.data.toList

theorem bldF_below {w w' : World} {B b : Nat} {bs : List Value} (h : Lib.IsBuilderF 45 5 B b bs w) (hb : Below w.heap.size w w') : Lib.IsBuilderF 45 5 B b bs w' := by
  have hg : w.grownBy w' none := gbelow none hb (Nat.le_refl _)
  have one : ∀ p, Lib.BuilderAtF 45 5 B b p bs w → Lib.BuilderAtF 45 5 B b p bs w' := by
    rintro p ⟨hB, v, hk, hown, hne⟩
    refine ⟨hB, v, ?_, hown.kept hg ?_, hne⟩
    · rw [hb.block b (Array.getElem?_eq_some_iff.1 hk).1]; exact hk
    · cases v.ownBlock with
      | none => exact Or.inl rfl
      | some _ => exact Or.inr (by simp)
  exact h.elim (fun x => Or.inl (one _ x)) (fun x => Or.inr (one _ x))

set_option maxHeartbeats 4000000 in
theorem formOf_any (ops : List Opd) (oa : Option Addr) (oc : Nat) (w : World) (hr : OpsR w oa ops) (hn : ops.length ≤ 1000) (hkd : ∀ o, o ∈ ops → o.kd.data.toList.length = 1) :
    Calls Tryz.prog 144 #[.slice oa ops.length oc] w fun r w' => r = .returned (.string ⟨(formU ops).toArray⟩) ∧ Below w.heap.size w w' := by
  have HR := Lib.hid hr
  have HKD := Lib.hid hkd
  clear hr hkd
  go_enter Tryz.func144, Tryz.ntmps144
  go_wp2_with fail
  go_loopw [8] (fun iv wr => ∃ k : Nat, k ≤ ops.length ∧ iv = .int .i64 k ∧ Hid (Lib.IsBuilderF 45 5 w.heap.size w.heap.size (Lib.byteCells (formU (ops.take k))) wr) ∧ Hid (Below w.heap.size w wr)) (fun iv _ => ops.length - (intOf iv).toNat)
  case atStart => exact ⟨0, Nat.zero_le _, rfl, Lib.IsBuilderF.of (Lib.fresh_isBuilder _ _ w), oalloc _ _⟩
  case round =>
    obtain ⟨k, hk, rfl, HI, HB⟩ := hrel
    by_cases hlt : k < ops.length
    · have hk' : (k : Int) < ops.length := by omega
      obtain ⟨b, rfl, cur, hbc, hcell⟩ := HR.out (by omega)
      obtain ⟨r0, r1, r2, r3⟩ := hcell k hlt
      have hbw : wr.heap[b]? = some (.cells cur 186 (0, 0)) := by rw [HB.out.block b (blk_lt hbc)]; exact hbc
      have k0 := blk_cell hbw r0
      have k1 := blk_cell hbw r1
      have k2 := blk_cell hbw r2
      have k3 := blk_cell hbw r3
      have hz := blk_lt hbw
      obtain ⟨o, ho⟩ : ∃ o, ops[k]'hlt = o := ⟨_, rfl⟩
      rw [ho] at k0 k1 k2 k3
      have hko := HKD.out o (by rw [← ho]; exact List.getElem_mem _)
      have hks : o.kd.size = 1 := by rw [← hko, Array.length_toList]; rfl
      have HT : Hid (formU (ops.take (k + 1)) = formU (ops.take k) ++ o.kd.data.toList) := by
        unfold Hid
        rw [List.take_succ_eq_append_getElem hlt, ho]
        simp [formU]
      have hfl : (formU (ops.take k)).length ≤ 1000 := by
        have e1 : ∀ l : List Opd, (∀ o, o ∈ l → o.kd.data.toList.length = 1) → (formU l).length = l.length := by
          intro l
          induction l with
          | nil => intro _; rfl
          | cons a r ih =>
            intro h
            have h1 := h a (by simp)
            have h2 := ih (fun o ho => h o (by simp [ho]))
            simp only [formU, List.flatMap_cons, List.length_append, List.length_cons] at h2 ⊢
            omega
        rw [e1 _ (fun o ho => HKD.out o (List.mem_of_mem_take ho))]
        simp; omega
      have HWS : Hid (∀ W, Below wr.heap.size wr W → Calls Tryz.prog 13 #[.pointer (some ⟨w.heap.size, 0, none⟩), .string o.kd] W fun e w' => (∃ x, e = .returned (.tuple #[.int .i64 x, .nilIface])) ∧ Lib.IsBuilderF 45 5 w.heap.size w.heap.size (Lib.byteCells (formU (ops.take k) ++ o.kd.data.toList)) w' ∧ Below w.heap.size W w') := fun W hb => by
        refine (Any.Builder_WriteString_k Tryz.lays166 Tryz.Builder_Extra_166 w.heap.size w.heap.size (Lib.byteCells (formU (ops.take k))) o.kd W (bldF_below HI.out hb) (by rw [Lib.byteCells_length]; omega) (Nat.le_trans HB.out.size hb.size)).mono ?_
        rintro e w' ⟨rfl, hA, hbel, hk⟩
        refine ⟨⟨_, rfl⟩, Or.inr ?_, hbel⟩
        rw [Lib.byteCells_append]
        exact hA
      clear ho hcell hbc hbw hko hks hfl r0 r1 r2 r3
      obtain ⟨kd, rg, nm, n⟩ := o
      simp only at k0 k1 k2 k3 HT HWS
      go_wp2_with fail
      refine (HWS.out _ (oalloc _ _)).mono ?_
      rintro e w1 ⟨⟨y, rfl⟩, hi1, hb1⟩
      have HI1 := Lib.hid hi1
      have HB1 : Hid (Below w.heap.size w w1) := (HB.out.alloc HB.out.size _).trans hb1
      clear hi1 hb1 HWS
      go_wp2_with fail
      exact ⟨⟨k + 1, by omega, by go_num, Lib.hid (by rw [HT.out]; exact HI1.out), HB1⟩, by simp [intOf]; omega⟩
    · obtain rfl : k = ops.length := by omega
      have hk' : ¬ ((ops.length : Nat) : Int) < ops.length := by omega
      have hI := HI.out
      rw [List.take_length] at hI
      have HST := Lib.hid (Tryz.Builder_String_any_k w.heap.size w.heap.size (formU ops) wr hI HB.out.size)
      clear hI
      go_wp2_with (first | (go_at_call 16; refine HST.out.mono ?_; rintro e w1 ⟨rfl, _, hb1, _⟩) | fail)
      go_ret
      exact ⟨rfl, HB.out.trans hb1⟩

end Go.Proofs.YtjmjhbdlbmnllaaGreatDoor
