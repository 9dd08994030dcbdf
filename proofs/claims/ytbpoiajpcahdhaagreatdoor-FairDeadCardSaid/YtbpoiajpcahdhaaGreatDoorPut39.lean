/- expr's Add of one token; Macro's expression and First of a text of one token. asm: operands. asm: all operands of a line. asm: lines without labels; an item added. asm: a unit's items in memory; numbers kept. asm: lines without labels. -/
import Derived.Test.YtbpoiajpcahdhaaGreatDoorPut38
import Derived.Test.YtbpoiajpcahdhaaGreatDoorPut37
namespace Go.Proofs.YtbpoiajpcahdhaaGreatDoor
open Go.RowKit

end Go.Proofs.YtbpoiajpcahdhaaGreatDoor

namespace Go.Proofs.YtbpoiajpcahdhaaGreatDoor
open Go.RowKit

/-- An operand as one value. -/
def opV (kd : ByteArray) (r : Int) (nm : ByteArray) (n : Int) : Value := .agg #[.string kd, .int .i64 r, .string nm, .int .i64 n]

theorem var4_of {w : World} {R : Nat} {a b c d : Value} {t : TypeId} (h : w.heap[R]? = some (.cells #[a, b, c, d] t (0, 0))) : ((w.cell? ⟨R, 0, none⟩ = some a ∧ w.cell? ⟨R, 1, none⟩ = some b) ∧ (w.cell? ⟨R, 2, none⟩ = some c ∧ w.cell? ⟨R, 3, none⟩ = some d)) ∧ (w.frozen? ⟨R, 0, none⟩ = false ∧ w.frozen? ⟨R, 1, none⟩ = false) ∧ w.frozen? ⟨R, 2, none⟩ = false ∧ w.frozen? ⟨R, 3, none⟩ = false := by
  refine ⟨⟨⟨?_, ?_⟩, ?_, ?_⟩, ⟨?_, ?_⟩, ?_, ?_⟩ <;> simp [World.cell?, World.frozen?, h]

end Go.Proofs.YtbpoiajpcahdhaaGreatDoor

namespace Go.Proofs.YtbpoiajpcahdhaaGreatDoor
open Go.RowKit

structure Opd where
  kd : ByteArray
  r : Int
  nm : ByteArray
  n : Int
def Opd.V (x : Opd) : Value := opV x.kd x.r x.nm x.n
def opC (l : List Opd) : List Value := l.flatMap fun x => [.string x.kd, .int .i64 x.r, .string x.nm, .int .i64 x.n]
theorem infoOp : (Tryz.prog.info? 216).map (fun i => (i.zero, i.size, i.bytes)) = some (some (.agg #[.string ⟨#[]⟩, .int .i64 0, .string ⟨#[]⟩, .int .i64 0]), 4, 48) := by kernel_rfl

theorem opC_app (l : List Opd) (x : Opd) : opC (l ++ [x]) = opC l ++ [.string x.kd, .int .i64 x.r, .string x.nm, .int .i64 x.n] := by simp [opC]
theorem splitT_len : ∀ (ts cur : List Tk), (splitT cur ts).length ≤ ts.length + 1
  | [], cur => by simp [splitT]
  | x :: r, cur => by
    rw [splitT]
    split
    · have := splitT_len r []; simp; omega
    · have := splitT_len r (cur ++ [x]); simp; omega
theorem pieces_len (ts : List Tk) : (piecesT ts).length ≤ ts.length + 1 := by
  unfold piecesT
  split
  · simp
  · exact splitT_len ts []

theorem row_cell1 {w : World} {base n : Nat} {e : TypeId} {oa : Option Addr} {oc : Nat} {xs : List Value} (h : w.ownsRow base e 1 (.slice oa n oc) n xs) {k : Nat} (hk : k < n) : ∃ g, oa = some ⟨g, 0, none⟩ ∧ g < w.heap.size ∧ w.cell? ⟨g, k, none⟩ = some (xs[k]'(by have := h.1; omega)) := by
  rcases id h.2 with ⟨hv, h0⟩ | ⟨g, cap, cur, hv, hg, hgg, _⟩
  · omega
  · injection hv with e1 _ _
    subst e1
    refine ⟨g, rfl, blk_lt hgg, ?_⟩
    have := h.cells rfl k _ (List.getElem?_eq_getElem (by have := h.1; omega))
    have hadd : (⟨g, 0, none⟩ : Addr).add k = ⟨g, 0 + k, none⟩ := by unfold Addr.add; split <;> simp_all
    rw [hadd, Nat.zero_add] at this
    exact this

set_option maxHeartbeats 4000000 in
set_option maxRecDepth 100000 in
/-- Operands, each of which is read as it is told. -/
theorem operands_any (gu : Nat) (v : Value) (ts : List Tk) (ops : List Opd) (w : World) (h : PReads w v ts) (hn : ts.length ≤ 1000) (hl : ops.length = (piecesT ts).length)
    (hop : ∀ i (h : i < ops.length) (u : Value) (W : World), Below w.heap.size w W → PReads W u ((piecesT ts)[i]'(by omega)) → Calls Tryz.prog 125 #[.pointer (some ⟨gu, 0, none⟩), u] W fun r w' => r = .returned (.tuple #[ops[i].V, .int .i64 0]) ∧ Below W.heap.size W w') :
    Calls Tryz.prog 87 #[.pointer (some ⟨gu, 0, none⟩), v] w fun r w' => (∃ ov, r = .returned (.tuple #[ov, .int .i64 0]) ∧ w'.ownsRow w.heap.size 216 4 ov ops.length (opC ops)) ∧ Below w.heap.size w w' := by
  have HS := Lib.hid (split_any v ts w h (by omega))
  have hol : ops.length ≤ 1001 := by have := pieces_len ts; omega
  have HOP := Lib.hid hop
  obtain ⟨ad, cap, rfl, _⟩ := h
  clear hop
  go_enter Tryz.func87, Tryz.ntmps87
  go_wp2_with fail
  refine HS.out.mono ?_
  rintro e w1 ⟨⟨ov, vs, rfl, hT⟩, hB1⟩
  obtain ⟨oa, oc, hov⟩ := row_shape hT.1
  subst hov
  have HT := Lib.hid hT
  have HB1 := Lib.hid hB1
  have hvl : vs.length = ops.length := by rw [hl]; exact hT.2.1
  clear hT hB1 HS
  go_wp2_with fail
  go_loopw [7, 16] (fun ov iv wr => ∃ k : Nat, k ≤ ops.length ∧ iv = .int .i64 k ∧ Hid (wr.ownsRow w1.heap.size 216 4 ov k (opC (ops.take k))) ∧ Hid (Below w1.heap.size w1 wr)) (fun _ iv _ => ops.length - (intOf iv).toNat)
  case atStart => exact ⟨0, Nat.zero_le _, rfl, Lib.hid (by simpa [opC] using World.ownsRow_nil w1 _ _ _), Below.refl _ _⟩
  case round =>
    obtain ⟨k, hk, rfl, HR, HB⟩ := hrel
    by_cases hlt : k < ops.length
    · have hk' : (k : Int) < vs.length := by omega
      obtain ⟨g, rfl, hgl, hgc⟩ := row_cell1 HT.out.1 (k := k) (by omega)
      have hz := HB.out.size
      have hB : Below w.heap.size w wr := HB1.out.trans (HB.out.mono HB1.out.size)
      have hkv : k < vs.length := by omega
      have hpk : PReads w (vs[k]'hkv) ((piecesT ts)[k]'(by omega)) := HT.out.2.2 k hkv (by omega)
      obtain ⟨u, hu⟩ : ∃ u, vs[k]'hkv = u := ⟨_, rfl⟩
      rw [hu] at hgc hpk
      clear hu
      obtain ⟨ua, un, uc, rfl⟩ := hpk.shape
      have c0 : wr.cell? ⟨g, k, none⟩ = some (.slice ua un uc) := (HB.out.cell (by show g < w1.heap.size; exact hgl)).trans hgc
      have hg2 : g < wr.heap.size := by omega
      have HC := Lib.hid (HOP.out k hlt (.slice ua un uc) wr hB (hpk.below hB (Nat.le_refl _)))
      have HTK : Hid (opC (ops.take (k + 1)) = opC (ops.take k) ++ [.string ops[k].kd, .int .i64 ops[k].r, .string ops[k].nm, .int .i64 ops[k].n]) := by
        unfold Hid
        rw [List.take_succ_eq_append_getElem hlt, opC_app]
      unfold Opd.V opV at HC
      obtain ⟨x, hx⟩ : ∃ x, ops[k]'hlt = x := ⟨_, rfl⟩
      rw [hx] at HC HTK
      clear hx hpk hB hgc
      obtain ⟨la, lc, hov⟩ := row_shape HR.out
      subst hov
      have HAP : Hid (∀ w2, Below wr.heap.size wr w2 → ∃ la' lc' w3, (∀ ty, (Builtin.append_ #[169, 169] ty #[.slice la k lc, .slice (some ⟨w2.heap.size + 1, 0, none⟩) 1 1]).run Tryz.prog ((w2.alloc (.cells #[.string x.kd, .int .i64 x.r, .string x.nm, .int .i64 x.n] 216)).alloc (.cells #[.string x.kd, .int .i64 x.r, .string x.nm, .int .i64 x.n] 216)) = .ok (.slice la' (k + 1) lc') w3) ∧
          w3.ownsRow w1.heap.size 216 4 (.slice la' (k + 1) lc') (k + 1) (opC (ops.take (k + 1))) ∧ Below w1.heap.size w1 w3) := fun w2 hb => by
        have hz2 := hb.size
        have hrow := ((Sc.owns_below HR.out hb (Nat.le_refl _)).alloc (.cells #[.string x.kd, .int .i64 x.r, .string x.nm, .int .i64 x.n] 216)).alloc (.cells #[.string x.kd, .int .i64 x.r, .string x.nm, .int .i64 x.n] 216)
        obtain ⟨v', w3, happ, hr', hgr⟩ := app1 169 216 _ 4 48 Tryz.underlying169 infoOp rfl (by decide) (by decide) hrow (by go_size) [.string x.kd, .int .i64 x.r, .string x.nm, .int .i64 x.n] rfl (w2.heap.size + 1) (new_at _ _ (by simp)) (by intro u hu; simp at hu; rcases hu with rfl | rfl | rfl | rfl <;> rfl) (by omega)
        obtain ⟨la', lc', rfl⟩ := row_shape hr'
        refine ⟨la', lc', w3, happ, by rw [HTK.out]; exact hr', ?_⟩
        have hb1 := HB.out.trans (hb.mono hz)
        exact ((hb1.alloc (by omega) _).alloc (by go_size) _).grown hgr (by go_size) (fun q hq => (hrow.lt q hq).1)
      go_wp2_with (first
        | (go_at_call 125; refine HC.out.mono ?_; rintro e w2 ⟨rfl, hb2⟩; obtain ⟨la', lc', w3, happ, hr3, hb3⟩ := HAP.out w2 hb2; have HA := Lib.hid happ; have HR3 := Lib.hid hr3; have HB3 := Lib.hid hb3; clear hb2 happ hr3 hb3)
        | (at_builtin; refine wpList_app_eq rfl _ _ _ _ rfl _ _ rfl rfl HA.out ?_))
      exact ⟨⟨k + 1, by omega, by go_num, HR3, HB3⟩, by simp [intOf]; omega⟩
    · obtain rfl : k = ops.length := by omega
      have hk' : ¬ ((ops.length : Nat) : Int) < vs.length := by omega
      obtain ⟨la, lc, hov⟩ := row_shape HR.out
      subst hov
      go_wp2
      go_ret2
      refine ⟨?_, HB1.out.trans (HB.out.mono HB1.out.size)⟩
      have := HR.out
      rw [List.take_length] at this
      have h2 := Sc.ownsRow_base this HB1.out.size
      rw [hl] at h2
      exact ⟨_, rfl, h2⟩

end Go.Proofs.YtbpoiajpcahdhaaGreatDoor

namespace Go.Proofs.YtbpoiajpcahdhaaGreatDoor
open Go.RowKit

/-- A unit's cells. -/
def uC (e : Value) (ln : Int) (nv lm iv pp pv rv : Value) : Array Value := #[e, .int .i64 ln, nv, lm, iv, pp, pv, rv]
theorem infoIt : (Tryz.prog.info? 177).map (fun i => (i.zero, i.size, i.bytes)) = some (some (.agg #[.int .i64 0, .int .i64 0, .int .i64 0, .int .i64 0, .nilFunc, .nilFunc]), 6, 48) := by kernel_rfl

set_option maxHeartbeats 2000000 in
theorem add_any (gu B n : Nat) (e nv lm iv pp pv rv fa by' : Value) (ln li si up al : Int) (xs : List Value) (w : World) (hB : B ≤ w.heap.size) (hu : w.heap[gu]? = some (.cells (uC e ln nv lm iv pp pv rv) 133 (0, 0))) (hr : w.ownsRow B 177 6 iv n xs) (hgB : gu < B) (hn : n ≤ 100000) (hf1 : fa = .nilFunc ∨ ∃ a b c, fa = .func a b c) (hb1 : ∃ a b c, by' = .func a b c) :
    Calls Tryz.prog 89 #[.pointer (some ⟨gu, 0, none⟩), itV li si up al fa by'] w fun r w' => r = .returned (.tuple #[]) ∧
      (∃ iv', w'.heap[gu]? = some (.cells (uC e ln nv lm iv' pp pv rv) 133 (0, 0)) ∧ w'.ownsRow B 177 6 iv' (n + 1) (xs ++ [.int .i64 ln, .int .i64 si, .int .i64 up, .int .i64 al, fa, by'])) ∧ Fr gu B w w' ∧ (∀ i, i < w.heap.size → i ≠ gu → some i ≠ iv.ownBlock → w'.heap[i]? = w.heap[i]?) := by
  obtain ⟨la, lc, rfl⟩ := row_shape hr
  have c1 : w.cell? ⟨gu, 1, none⟩ = some (.int .i64 ln) := blk_cell hu rfl
  have c4 : w.cell? ⟨gu, 4, none⟩ = some (.slice la n lc) := blk_cell hu rfl
  have hg := blk_lt hu
  have hof : fa.oneCell' = true := by rcases hf1 with rfl | ⟨a, b, c, rfl⟩ <;> rfl
  have hob : by'.oneCell' = true := by obtain ⟨a, b, c, rfl⟩ := hb1; rfl
  have hrow : (((w.alloc (.cells #[.int .i64 ln, .int .i64 si, .int .i64 up, .int .i64 al, fa, by'] 177)).alloc (.cells #[.int .i64 ln, .int .i64 si, .int .i64 up, .int .i64 al, fa, by'] 177)).drew).ownsRow B 177 6 (.slice la n lc) n xs := (hr.alloc _).alloc _
  obtain ⟨v', w', happ, hr', hgr⟩ := app1 130 177 _ 6 48 Tryz.underlying130 infoIt rfl (by decide) (by decide) hrow (by simp; omega) [.int .i64 ln, .int .i64 si, .int .i64 up, .int .i64 al, fa, by'] rfl (w.heap.size + 1) (new_at _ _ (by simp)) (by intro u hu; simp at hu; rcases hu with rfl | rfl | rfl | rfl | rfl | rfl <;> first | rfl | assumption) (by omega)
  obtain ⟨la', lc', rfl⟩ := row_shape hr'
  have hbox : (((w.alloc (.cells #[.int .i64 ln, .int .i64 si, .int .i64 up, .int .i64 al, fa, by'] 177)).alloc (.cells #[.int .i64 ln, .int .i64 si, .int .i64 up, .int .i64 al, fa, by'] 177)).drew).heap[gu]? = some (.cells (uC e ln nv lm (.slice la n lc) pp pv rv) 133 (0, 0)) := by
    show (World.alloc _ _).heap[gu]? = _
    rw [old2 _ _ (by simp; omega), old2 _ _ hg]
    exact hu
  have hbox' := (hgr.block gu (blk_lt hbox) (row_box hrow hbox (by decide))).trans hbox
  have HF : Hid (Fr gu B w w') := by
    refine Fr.trans (Fr.below (by go_grown)) (Fr.grown hgr (by go_size) ?_)
    intro q hq
    exact .inr (hrow.lt q hq).1
  have HO : Hid (∀ i, i < w.heap.size → i ≠ gu → some i ≠ (Value.slice la n lc).ownBlock → w'.heap[i]? = w.heap[i]?) := fun i hi h1 h2 => by
    rw [hgr.block i (by go_size) h2]
    show (World.alloc _ _).heap[i]? = _
    rw [old2 _ _ (by go_size), old2 _ _ hi]
  have HW : Hid ((w'.setCell ⟨gu, 4, none⟩ (.slice la' (n + 1) lc')).heap[gu]? = some (.cells (uC e ln nv lm (.slice la' (n + 1) lc') pp pv rv) 133 (0, 0)) ∧ (w'.setCell ⟨gu, 4, none⟩ (.slice la' (n + 1) lc')).ownsRow B 177 6 (.slice la' (n + 1) lc') (n + 1) (xs ++ [.int .i64 ln, .int .i64 si, .int .i64 up, .int .i64 al, fa, by'])) := ⟨blk_set hbox', row_set hr' hgB⟩
  have d4 : w'.cell? ⟨gu, 4, none⟩ = some (.slice la n lc) := blk_cell hbox' rfl
  have f4 : w'.frozen? ⟨gu, 4, none⟩ = false := blk_froz hbox'
  have hg' := blk_lt hbox'
  obtain ⟨ba, bb, bc, rfl⟩ := hb1
  clear hrow hr' hgr hbox hbox' hu hr hof hob
  unfold itV
  rcases hf1 with rfl | ⟨fa1, fa2, fa3, rfl⟩
  all_goals
    go_enter Tryz.func89, Tryz.ntmps89
    go_wp2_with fail
    go_region_law (refine step_app1 rfl _ _ _ _ rfl _ _ rfl rfl happ ?_)
    all_goals exact bodyPost_end (v := .tuple #[]) (by simp [results, Tryz.results89, go_sem]) rfl ⟨rfl, ⟨_, HW.out⟩, HF.out.trans (Fr.of (gset w' gu 4 _) (Nat.le_trans hB HF.out.size)), fun i hi h1 h2 => by rw [Below.heap_setCell _ _ _ _ h1]; exact HO.out i hi h1 h2⟩

end Go.Proofs.YtbpoiajpcahdhaaGreatDoor

namespace Go.Proofs.YtbpoiajpcahdhaaGreatDoor
open Go.RowKit

/-- The types of what an item's functions keep. -/
def Capt (t : TypeId) : Prop := t ∈ [163, 3, 180, 255, 256, 169, 216, 128]
instance (t : TypeId) : Decidable (Capt t) := by unfold Capt; infer_instance

/-- A function that tells where an instruction leads: a value's place, or a pool's value (told by the pool's block). -/
def GoalR (W : World) (gu : Nat) (tv : Value) : Goal → Prop
  | .val nm n => ∃ gb gl b len c cur, tv = .func (.func 168) #[] #[.pointer (some ⟨gb, 0, none⟩), .pointer (some ⟨gl, 0, none⟩)] ∧ W.heap[gb]? = some (.cells #[.pointer (some ⟨gu, 0, none⟩)] 163 (0, 0)) ∧ W.heap[gl]? = some (.cells #[.slice (some ⟨b, 0, none⟩) (len + 1) c] 169 (0, 0)) ∧ W.heap[b]? = some (.cells cur 216 (0, 0)) ∧ (∃ kd r, cur[0]? = some (.string kd) ∧ cur[1]? = some (.int .i64 r)) ∧ cur[2]? = some (.string ⟨nm.toArray⟩) ∧ cur[3]? = some (.int .i64 n)
  | .slot gp i => ∃ gb gq gi, tv = .func (.func 200) #[] #[.pointer (some ⟨gb, 0, none⟩), .pointer (some ⟨gq, 0, none⟩), .pointer (some ⟨gi, 0, none⟩)] ∧ W.heap[gb]? = some (.cells #[.pointer (some ⟨gu, 0, none⟩)] 163 (0, 0)) ∧ W.heap[gq]? = some (.cells #[.pointer (some ⟨gp, 0, none⟩)] 128 (0, 0)) ∧ W.heap[gi]? = some (.cells #[.int .i64 i] 3 (0, 0))

/-- What the functions of an item keep. -/
def GenR (W : World) (gu : Nat) (x : It) (fa by' : Value) : Prop :=
  match x.gen with
  | .fill => fa = .nilFunc ∧ by' = .func (.func 129) #[] #[]
  | .num nm n => fa = .nilFunc ∧ ∃ gb gs gv, by' = .func (.func 130) #[] #[.pointer (some ⟨gv, 0, none⟩), .pointer (some ⟨gs, 0, none⟩), .pointer (some ⟨gb, 0, none⟩)] ∧ W.heap[gb]? = some (.cells #[.pointer (some ⟨gu, 0, none⟩)] 163 (0, 0)) ∧ W.heap[gs]? = some (.cells #[.int .i64 x.size] 3 (0, 0)) ∧ W.heap[gv]? = some (.cells #[.string ⟨nm.toArray⟩, .int .i64 n] 180 (0, 0))
  | .plain op n m imm => fa = .nilFunc ∧ ∃ gi, by' = .func (.func 203) #[] #[.pointer (some ⟨gi, 0, none⟩)] ∧ W.heap[gi]? = some (.cells #[.int .i64 op, .int .i64 n, .int .i64 m, .int .i64 imm] 255 (0, 0))
  | .lead op n m imm q => ∃ gt gi tv, fa = (if Isa.infoShape op = 4 then .func (.func 198) #[] #[.pointer (some ⟨gt, 0, none⟩)] else .nilFunc) ∧ by' = .func (.func 193) #[] #[.pointer (some ⟨gt, 0, none⟩), .pointer (some ⟨gi, 0, none⟩)] ∧ W.heap[gt]? = some (.cells #[tv] 256 (0, 0)) ∧ W.heap[gi]? = some (.cells #[.int .i64 op, .int .i64 n, .int .i64 m, .int .i64 imm] 255 (0, 0)) ∧ GoalR W gu tv q

/-- Blocks of the types that functions keep are as they were. -/
def KeepU (W W' : World) : Prop := W.heap.size ≤ W'.heap.size ∧ ∀ (q : Nat) (c : Array Value) (t : TypeId) (f : Nat × Nat), W.heap[q]? = some (.cells c t f) → Capt t → W'.heap[q]? = some (.cells c t f)
theorem KeepU.of {W W' : World} (h : Below W.heap.size W W') : KeepU W W' := ⟨h.size, fun q c t f hb _ => by rw [h.block q (blk_lt hb)]; exact hb⟩
theorem GoalR.stays {W W' : World} {gu : Nat} {tv : Value} {q : Goal} (h : GoalR W gu tv q) (k : ∀ {q : Nat} {c : Array Value} {t : TypeId}, W.heap[q]? = some (.cells c t (0, 0)) → Capt t → W'.heap[q]? = some (.cells c t (0, 0))) : GoalR W' gu tv q := by
  cases q with
  | val nm n =>
    obtain ⟨gb, gl, b, len, c, cur, e, h1, h2, h3, h4⟩ := h
    exact ⟨gb, gl, b, len, c, cur, e, k h1 (by decide), k h2 (by decide), k h3 (by decide), h4⟩
  | slot gp i =>
    obtain ⟨gb, gq, gi, e, h1, h2, h3⟩ := h
    exact ⟨gb, gq, gi, e, k h1 (by decide), k h2 (by decide), k h3 (by decide)⟩
theorem GenR.stays {W W' : World} {gu : Nat} {x : It} {fa by' : Value} (h : GenR W gu x fa by') (k : ∀ {q : Nat} {c : Array Value} {t : TypeId}, W.heap[q]? = some (.cells c t (0, 0)) → Capt t → W'.heap[q]? = some (.cells c t (0, 0))) : GenR W' gu x fa by' := by
  unfold GenR at h ⊢
  cases hx : x.gen with
  | fill => rw [hx] at h; exact h
  | num nm n =>
    rw [hx] at h
    obtain ⟨h0, gb, gs, gv, e, a, b, c⟩ := h
    exact ⟨h0, gb, gs, gv, e, k a (by decide), k b (by decide), k c (by decide)⟩
  | plain op n m imm =>
    rw [hx] at h
    obtain ⟨h0, gi, e, a⟩ := h
    exact ⟨h0, gi, e, k a (by decide)⟩
  | lead op n m imm q =>
    rw [hx] at h
    obtain ⟨gt, gi, tv, h0, e, a, b, c⟩ := h
    exact ⟨gt, gi, tv, h0, e, k a (by decide), k b (by decide), c.stays k⟩
theorem GenR.keep {W W' : World} {gu : Nat} {x : It} {fa by' : Value} (h : GenR W gu x fa by') (k : KeepU W W') : GenR W' gu x fa by' := h.stays fun a b => k.2 _ _ _ _ a b
theorem GenR.shape {W : World} {gu : Nat} {x : It} {fa by' : Value} (h : GenR W gu x fa by') : (fa = .nilFunc ∨ ∃ a b c, fa = .func a b c) ∧ ∃ a b c, by' = .func a b c := by
  unfold GenR at h
  cases hx : x.gen with
  | fill => rw [hx] at h; exact ⟨.inl h.1, _, _, _, h.2⟩
  | num nm n => rw [hx] at h; obtain ⟨h0, _, _, _, e, _⟩ := h; exact ⟨.inl h0, _, _, _, e⟩
  | plain op n m imm => rw [hx] at h; obtain ⟨h0, _, e, _⟩ := h; exact ⟨.inl h0, _, _, _, e⟩
  | lead op n m imm q =>
    rw [hx] at h
    obtain ⟨_, _, _, h0, e, _⟩ := h
    refine ⟨?_, _, _, _, e⟩
    rw [h0]
    split
    · exact .inr ⟨_, _, _, rfl⟩
    · exact .inl rfl
/-- An item that is never asked whether it must be long. -/
def NoFar (x : It) : Prop := match x.gen with | .lead op _ _ _ _ => Isa.infoShape op ≠ 4 | _ => True
theorem GenR.noFar {W : World} {gu : Nat} {x : It} {fa by' : Value} (h : GenR W gu x fa by') (hn : NoFar x) : fa = .nilFunc := by
  unfold GenR at h
  unfold NoFar at hn
  cases hx : x.gen with
  | fill => rw [hx] at h; exact h.1
  | num nm n => rw [hx] at h; exact h.1
  | plain op n m imm => rw [hx] at h; exact h.1
  | lead op n m imm q =>
    rw [hx] at h hn
    obtain ⟨_, _, _, h0, _⟩ := h
    rw [h0, if_neg hn]

/-- Items, each with its two functions. -/
def itC (l : List (It × Value × Value)) : List Value := l.flatMap fun p => [.int .i64 p.1.line, .int .i64 p.1.size, .int .i64 p.1.upTo, .int .i64 p.1.align, p.2.1, p.2.2]

/-- A unit in memory: the box, its items, and what the others hold. -/
structure UR (W : World) (B gu : Nat) (e : Value) (ln : Int) (nv lm pp pv rv : Value) (its : List It) : Prop where
  lt : gu < B
  le : B ≤ W.heap.size
  its : ∃ iv l, W.heap[gu]? = some (.cells (uC e ln nv lm iv pp pv rv) 133 (0, 0)) ∧ W.ownsRow B 177 6 iv its.length (itC l) ∧ l.map (·.1) = its ∧ ∀ p, p ∈ l → GenR W gu p.1 p.2.1 p.2.2

theorem UR.go {W W' : World} {B gu : Nat} {e : Value} {ln : Int} {nv lm pp pv rv : Value} {its : List It} (h : UR W B gu e ln nv lm pp pv rv its) (hb : Below W.heap.size W W') : UR W' B gu e ln nv lm pp pv rv its := by
  obtain ⟨iv, l, h1, h2, h3, h4⟩ := h.its
  exact ⟨h.lt, Nat.le_trans h.le hb.size, iv, l, by rw [hb.block _ (blk_lt h1)]; exact h1, Sc.owns_below h2 hb (Nat.le_refl _), h3, fun p hp => (h4 p hp).keep (KeepU.of hb)⟩

end Go.Proofs.YtbpoiajpcahdhaaGreatDoor

namespace Go.Proofs.YtbpoiajpcahdhaaGreatDoor
open Go.RowKit

/-- Whether a text begins with a label. -/
def labelled (ts : List Tk) : Bool := (headT ts).k == 1 && ((headT ts.tail).k == 3 && (headT ts.tail).t.toList == [58])

set_option maxHeartbeats 2000000 in
theorem labels_none (gu : Nat) (v : Value) (ts : List Tk) (w : World) (h : PReads w v ts) (hl : labelled ts = false) :
    Calls Tryz.prog 84 #[.pointer (some ⟨gu, 0, none⟩), v] w fun r w' => r = .returned (.tuple #[v, .int .i64 0]) ∧ Below w.heap.size w w' := by
  have HN := Lib.hid fun W (hb : Below w.heap.size w W) => next_any v ts W (h.below hb (Nat.le_refl _))
  have HN2 := Lib.hid fun v' (hv : PReads w v' ts.tail) W (hb : Below w.heap.size w W) => next_any v' ts.tail W (hv.below hb (Nat.le_refl _))
  have HW := Lib.hid fun W => aword_any (headT ts).k (headT ts).n (headT ts).t W
  have HS := Lib.hid fun W => asign_any (headT ts.tail).k (headT ts.tail).n (headT ts.tail).t ⟨#[58]⟩ W
  have e58 : (⟨#[58]⟩ : ByteArray).toList = [58] := by simp [ByteArray.toList_eq]
  rw [e58] at HS
  have hl2 : ((headT ts).k == 1 && ((headT ts.tail).k == 3 && (headT ts.tail).t.toList == [58])) = false := hl
  clear e58
  obtain ⟨ad, cap, rfl, _⟩ := h
  generalize ts.tail = tl at *
  generalize headT ts = x at *
  generalize headT tl = y at *
  generalize ((x.k == 1) : Bool) = p1 at *
  generalize ((y.k == 3 && y.t.toList == [58]) : Bool) = p2 at *
  obtain ⟨xk, xn, xt⟩ := x
  obtain ⟨yk, yn, yt⟩ := y
  unfold Tk.V tokV at *
  simp only at *
  clear hl
  go_enter Tryz.func84, Tryz.ntmps84
  go_wp2_with fail
  refine wp_loop_rounds 1 ?_
  rw [rounds_succ]
  go_wp2_with fail
  refine (HN.out _ (Below.refl _ _)).mono ?_
  rintro e w1 ⟨⟨v', rfl, hv⟩, hb1⟩
  obtain ⟨ad', cap', rfl, _⟩ := id hv
  have HV := Lib.hid hv
  have HB1 := Lib.hid hb1
  clear hv hb1 HN
  go_wp2_with fail
  refine (HN2.out _ HV.out _ (HB1.out.alloc HB1.out.size _)).mono ?_
  rintro e w2 ⟨⟨v2, rfl, hv2⟩, hb2⟩
  obtain ⟨ad2, cap2, rfl, _⟩ := hv2
  obtain ⟨hB2, hz2, xr⟩ := box_keep hb2
  have t0 : w2.cell? ⟨w1.heap.size, 0, none⟩ = some (.int .i64 xk) := blk_cell xr rfl
  have t1 : w2.cell? ⟨w1.heap.size, 1, none⟩ = some (.int .i64 xn) := blk_cell xr rfl
  have t2 : w2.cell? ⟨w1.heap.size, 2, none⟩ = some (.string xt) := blk_cell xr rfl
  have HB2 := Lib.hid (HB1.out.trans (hB2.mono HB1.out.size))
  clear hb2 hB2 xr HB1 HN2 HV
  cases p1
  · go_wp2_with (first
      | (go_at_call 86; refine (HW.out _).mono ?_; rintro e w3 ⟨rfl, hb3⟩; have HB3 : Hid (Below w.heap.size w w3) := Below.trans (by have hb := HB2.out; have := HB2.out.size; go_grown) (hb3.mono (by have := HB2.out.size; go_size)); clear hb3)
      | fail)
    go_ret2
    exact ⟨rfl, HB3.out⟩
  · have hp2 : p2 = false := by simpa using hl2
    subst hp2
    go_wp2_with (first
      | (go_at_call 86; refine (HW.out _).mono ?_; rintro e w3 ⟨rfl, hb3⟩; obtain ⟨hB3, hz3, yr⟩ := box_keep hb3; have s0 : w3.cell? ⟨w2.heap.size, 0, none⟩ = some (.int .i64 yk) := blk_cell yr rfl; have s1 : w3.cell? ⟨w2.heap.size, 1, none⟩ = some (.int .i64 yn) := blk_cell yr rfl; have s2 : w3.cell? ⟨w2.heap.size, 2, none⟩ = some (.string yt) := blk_cell yr rfl; have HB3 : Hid (Below w.heap.size w w3) := HB2.out.trans (hB3.mono HB2.out.size); clear hb3 hB3 yr)
      | (go_at_call 119; refine (HS.out _).mono ?_; rintro e w4 ⟨rfl, hb4⟩; have HB4 : Hid (Below w.heap.size w w4) := HB3.out.trans (hb4.mono HB3.out.size); clear hb4))
    go_ret2
    exact ⟨rfl, HB4.out⟩

end Go.Proofs.YtbpoiajpcahdhaaGreatDoor
