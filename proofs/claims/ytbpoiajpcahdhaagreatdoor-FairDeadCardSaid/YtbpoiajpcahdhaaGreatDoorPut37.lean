/- Macro: Short of lines that stand for themselves. asm: which register a token is. Macro: what stands between commas. -/
import Derived.Test.YtbpoiajpcahdhaaGreatDoorPut36
import Derived.Test.YtbpoiajpcahdhaaGreatDoorPut33
namespace Go.Proofs.YtbpoiajpcahdhaaGreatDoor
open Go.RowKit

/-- A slice reads as lines: each one's number and tokens. -/
def LRd (W : World) (v : Value) (ls : List (Int × List Tk)) : Prop :=
  ∃ ad cap, v = .slice ad ls.length cap ∧ ls.length ≤ maxLen ∧ (0 < ls.length → ∃ b o, ad = some ⟨b, o, none⟩ ∧ b < W.heap.size ∧ ∀ i (h : i < ls.length), ∃ td tn tc, W.cell? ⟨b, o + i * 2, none⟩ = some (.slice td tn tc) ∧ W.cell? ⟨b, o + i * 2 + 1, none⟩ = some (.int .i64 ls[i].1) ∧ PReads W (.slice td tn tc) ls[i].2)

theorem LRd.below {w w' : World} {B : Nat} {v : Value} {ls : List (Int × List Tk)} (h : LRd w v ls) (hb : Below B w w') (hB : w.heap.size ≤ B) : LRd w' v ls := by
  obtain ⟨ad, cap, rfl, hm, h⟩ := h
  refine ⟨ad, cap, rfl, hm, fun h0 => ?_⟩
  obtain ⟨b, o, rfl, hlt, hcell⟩ := h h0
  refine ⟨b, o, rfl, Nat.lt_of_lt_of_le hlt hb.size, fun i hi => ?_⟩
  obtain ⟨td, tn, tc, h1, h2, h3⟩ := hcell i hi
  exact ⟨td, tn, tc, by rw [hb.cell (by show b < B; omega)]; exact h1, by rw [hb.cell (by show b < B; omega)]; exact h2, h3.below hb hB⟩

/-- What is put is what lies there. -/
theorem same_blk {w : World} {q i : Nat} {c : Array Value} {t : TypeId} {v : Value} (h : w.heap[q]? = some (.cells c t (0, 0))) (hv : c[i]? = some v) : (w.setCell ⟨q, i, none⟩ v).heap[q]? = some (.cells c t (0, 0)) := by
  rw [blk_set h]
  obtain ⟨hi, e⟩ := Array.getElem?_eq_some_iff.1 hv
  have : c.setIfInBounds i v = c := by
    apply Array.ext (by simp)
    intro j h1 h2
    rw [Array.getElem_setIfInBounds (by simpa using h1)]
    split
    · next hij => subst hij; exact e.symm
    · rfl
  rw [this]
theorem same_set {w : World} {B q i : Nat} {c : Array Value} {t : TypeId} {v : Value} (h : w.heap[q]? = some (.cells c t (0, 0))) (hv : c[i]? = some v) : Below B w (w.setCell ⟨q, i, none⟩ v) := by
  refine ⟨rfl, rfl, rfl, by simp, fun j hj => ?_⟩
  by_cases e : j = q
  · subst e
    rw [same_blk h hv, h]
  · exact Below.heap_setCell _ _ _ _ e

/-- Lines as stage 2 has them, as Short reads them. -/
def lnOf (l : Sc.Ln) : Int × List Tk := (l.pos, l.toks.map tkOf)

theorem PReads.shape {w : World} {v : Value} {ts : List Tk} (h : PReads w v ts) : ∃ ad len cap, v = .slice ad len cap := by
  obtain ⟨ad, cap, rfl, _⟩ := h
  exact ⟨_, _, _, rfl⟩

theorem lnC_at : ∀ (ps : List (Value × Int)) (i : Nat) (h : i < ps.length), (lnC ps)[i * 2]? = some ps[i].1 ∧ (lnC ps)[i * 2 + 1]? = some (.int .i64 ps[i].2)
  | [], i, h => by simp at h
  | p :: r, 0, h => by simp [lnC]
  | p :: r, i + 1, h => by
    have ih := lnC_at r i (by simpa using h)
    have e : lnC (p :: r) = [p.1, .int .i64 p.2] ++ lnC r := by simp [lnC]
    rw [e, show (i + 1) * 2 = 2 + i * 2 by omega]
    simp only [List.getElem_cons_succ]
    refine ⟨?_, ?_⟩
    · rw [List.getElem?_append_right (by simp)]; simpa using ih.1
    · rw [List.getElem?_append_right (by simp; omega)]; simpa [show 2 + i * 2 + 1 - 2 = i * 2 + 1 by omega] using ih.2

/-- A row of one's own, of lines, reads so. -/
theorem lrd_of {W : World} {base : Nat} {v : Value} {ps : List (Value × Int)} {ls : List (Int × List Tk)} (h : W.ownsRow base 137 2 v ps.length (lnC ps)) (hl : ls.length = ps.length) (hp : ∀ i (h : i < ps.length), ps[i].2 = (ls[i]'(by omega)).1 ∧ PReads W ps[i].1 (ls[i]'(by omega)).2) : LRd W v ls := by
  rcases id h.2 with ⟨hv, h0⟩ | ⟨g, cap, cur, rfl, hg, hgg, hle, hm, rest⟩
  · refine ⟨none, 0, by rw [hv, hl, h0], by rw [hl, h0]; exact Nat.zero_le _, fun h => by omega⟩
  · refine ⟨some ⟨g, 0, none⟩, cap, by rw [hl], by omega, fun _ => ⟨g, 0, rfl, blk_lt hgg, fun i hi => ?_⟩⟩
    have hi' : i < ps.length := by omega
    obtain ⟨a, b⟩ := lnC_at ps i hi'
    obtain ⟨e1, e2⟩ := hp i hi'
    obtain ⟨td, tn, tc, e3⟩ := e2.shape
    have hadd : ∀ j, (⟨g, 0, none⟩ : Addr).add j = ⟨g, 0 + j, none⟩ := fun j => by unfold Addr.add; split <;> simp_all
    have k0 := h.cells rfl _ _ a
    have k1 := h.cells rfl _ _ b
    rw [hadd] at k0 k1
    rw [e3] at k0 e2
    rw [e1] at k1
    exact ⟨td, tn, tc, k0, k1, e2⟩

set_option maxHeartbeats 2000000 in
theorem short_any (v : Value) (ls : List Sc.Ln) (w : World) (h : LIn w v ls) (hn : ls.length ≤ 200) (hts : ∀ l, l ∈ ls → l.toks.length ≤ 100000) (hp : ∀ l, l ∈ ls → PlainHead (headS (l.toks.map tkOf))) :
    Calls Tryz.prog 61 #[v] w fun r w' => (∃ lv, r = .returned (.tuple #[lv, .slice none 0 0, .agg #[.int .i64 0, .int .i64 0]]) ∧ LRd w' lv (ls.map lnOf)) ∧ Below w.heap.size w w' := by
  have hmm : ∀ w, (Instr.makeMap 122 none).run Tryz.prog w = .ok (.map (some w.heap.size)) (w.alloc (.map #[] 0)) := fun w => rfl
  obtain ⟨ad, cap, rfl, _⟩ := id h
  have HI := Lib.hid h
  have HP := Lib.hid hp
  have HTS := Lib.hid hts
  clear h hp hts
  go_enter Tryz.func61, Tryz.ntmps61
  go_wp2_with fail
  have hB0 : Below w.heap.size w (((w.alloc (.cells #[.int .i64 0, .int .i64 0] 38)).alloc (.map #[] 0)).alloc (.cells #[.slice none 0 0, .slice none 0 0, .map (some (w.heap.size + 1)), .int .i64 0] 124)) := by go_grown
  have hb1 : (((w.alloc (.cells #[.int .i64 0, .int .i64 0] 38)).alloc (.map #[] 0)).alloc (.cells #[.slice none 0 0, .slice none 0 0, .map (some (w.heap.size + 1)), .int .i64 0] 124)).heap[w.heap.size + 1 + 1]? = some (.cells #[.slice none 0 0, .slice none 0 0, .map (some (w.heap.size + 1)), .int .i64 0] 124 (0, 0)) := new_at _ _ (by go_size)
  have hb2 : (((w.alloc (.cells #[.int .i64 0, .int .i64 0] 38)).alloc (.map #[] 0)).alloc (.cells #[.slice none 0 0, .slice none 0 0, .map (some (w.heap.size + 1)), .int .i64 0] 124)).heap[w.heap.size + 1]? = some (.map #[] 0) := by
    rw [old2 _ _ (by go_size)]
    exact new_at _ _ (by go_size)
  have hb3 : (((w.alloc (.cells #[.int .i64 0, .int .i64 0] 38)).alloc (.map #[] 0)).alloc (.cells #[.slice none 0 0, .slice none 0 0, .map (some (w.heap.size + 1)), .int .i64 0] 124)).heap[w.heap.size]? = some (.cells #[.int .i64 0, .int .i64 0] 38 (0, 0)) := by
    rw [old2 _ _ (by go_size), old2 _ _ (by go_size)]
    exact new_at _ _ (by go_size)
  have hz0 : (((w.alloc (.cells #[.int .i64 0, .int .i64 0] 38)).alloc (.map #[] 0)).alloc (.cells #[.slice none 0 0, .slice none 0 0, .map (some (w.heap.size + 1)), .int .i64 0] 124)).heap.size = w.heap.size + 3 := by simp
  generalize (((w.alloc (.cells #[.int .i64 0, .int .i64 0] 38)).alloc (.map #[] 0)).alloc (.cells #[.slice none 0 0, .slice none 0 0, .map (some (w.heap.size + 1)), .int .i64 0] 124)) = W0 at *
  have hI0 : LIn W0 (.slice ad ls.length cap) ls := by
    obtain ⟨ad', cap', e, hh⟩ := HI.out
    refine ⟨ad', cap', e, fun h0 => ?_⟩
    obtain ⟨b, o, rfl, hlt, hc⟩ := hh h0
    refine ⟨b, o, rfl, by omega, fun i hi => ?_⟩
    obtain ⟨tv, a1, a2, a3⟩ := hc i hi
    exact ⟨tv, by rw [hB0.cell (by exact hlt)]; exact a1, by rw [hB0.cell (by exact hlt)]; exact a2, a3.below hB0 (Nat.le_refl _)⟩
  refine (read_any _ ls W0 hI0 (by omega) HTS.out).mono ?_
  rintro e W1 ⟨rfl, ⟨f, hf⟩, hB1⟩
  have hz1 : W0.heap.size < W1.heap.size := hf.1.lt
  have hW1 : WR W1 W1.heap.size (w.heap.size + 1 + 1) (.slice none 0 0) (w.heap.size + 1) 0 [] := ⟨by rw [hB1.block _ (by omega)]; exact hb1, by simpa [lnC] using World.ownsRow_nil W1 _ _ _, by rw [hB1.block _ (by omega)]; exact hb2, by omega⟩
  have hlen : ((List.range ls.length).map f).length = ls.length := by simp
  have HD := Lib.hid (do_any (w.heap.size + 1 + 1) (w.heap.size + 1) (.slice none 0 0) 0 [] W0.heap.size 0 ls.length ((List.range ls.length).map f) (ls.map fun l => l.toks.map tkOf) 0 W1 W1.heap.size (Nat.le_refl _) hW1 (by omega) (by omega) (by simpa using hn) (by omega) (by rw [hlen]; omega) (by rw [hlen]; exact Nat.le_refl _) (by unfold maxLen; omega) (by simp)
    (fun W hF => by
      have hk := hF.block W0.heap.size (by omega) (by omega)
      refine ⟨Nat.lt_of_lt_of_le hz1 hF.size, fun i hi => ?_⟩
      have hi' : i < ls.length := by simpa using hi
      obtain ⟨a1, a2, a3⟩ := hf.2.1 i hi' hi'
      have hr := hf.1.keep hk
      have hcc := hr.cell0 hi'
      have hcd := hr.cell1 hi'
      have hpr := a2.fr (fun e => by have := a3 _ e; omega) hF (Nat.le_refl _)
      simp only [List.getElem_map, List.getElem_range, Nat.zero_add]
      exact ⟨hpr.shape, hcc, hcd, hpr⟩)
    (fun t ht => by
      obtain ⟨l, hl, rfl⟩ := List.mem_map.1 ht
      exact HP.out l hl))
  rw [hlen] at HD
  have HAft : Hid (∀ W2, (∃ lv', WR W2 W1.heap.size (w.heap.size + 1 + 1) lv' (w.heap.size + 1) (0 + ls.length) ([] ++ (List.range ls.length).map f)) → Fr (w.heap.size + 1 + 1) W1.heap.size W1 W2 →
      W2.heap[w.heap.size]? = some (.cells #[.int .i64 0, .int .i64 0] 38 (0, 0)) ∧ Below w.heap.size w W2 ∧ ∃ la lc, LRd W2 (.slice la ls.length lc) (ls.map lnOf) ∧ W2.heap[w.heap.size + 1 + 1]? = some (.cells #[.slice la ls.length lc, .slice none 0 0, .map (some (w.heap.size + 1)), .int .i64 (0 + ls.length)] 124 (0, 0))) := fun W2 hw hF => by
    obtain ⟨lv', h2⟩ := hw
    refine ⟨?_, ?_, ?_⟩
    · rw [hF.block _ (by omega) (by omega), hB1.block _ (by omega)]
      exact hb3
    · have h01 : Below w.heap.size w W1 := hB0.trans (hB1.mono (by omega))
      exact ⟨hF.os.trans h01.os, hF.tape.trans h01.tape, hF.output.trans h01.output, Nat.le_trans h01.size hF.size, fun i hi => (hF.block i (by omega) (by omega)).trans (h01.block i hi)⟩
    · have hsh := row_shape h2.row
      obtain ⟨la, lc, e⟩ := hsh
      have el : ([] ++ (List.range ls.length).map f).length = ls.length := by simp
      rw [el] at e
      subst e
      refine ⟨la, lc, ?_, h2.box⟩
      refine lrd_of h2.row (by simp) fun i hi => ?_
      have hi' : i < ls.length := by simpa using hi
      obtain ⟨a1, a2, a3⟩ := hf.2.1 i hi' hi'
      have hpr := a2.fr (fun e => by have := a3 _ e; omega) hF (Nat.le_refl _)
      simp only [List.nil_append, List.getElem_map, List.getElem_range, lnOf]
      exact ⟨a1, hpr⟩
  clear hf hB1 hW1 hb1 hb2 hb3 hI0 hB0 HTS HP HI hlen hz0 hz1
  go_wp2_with (go_at_call 69; refine HD.out.mono ?_; rintro e W2 ⟨rfl, hw2, hf2⟩; obtain ⟨x0, hB2, la, lc, hLR, hbx⟩ := HAft.out W2 hw2 hf2; obtain ⟨⟨u0, u1⟩, f0, f1⟩ := var2_of x0; have hz2 := blk_lt hbx; have d0 : W2.cell? ⟨w.heap.size + 1 + 1, 0, none⟩ = some (.slice la ls.length lc) := blk_cell hbx rfl; have d1 : W2.cell? ⟨w.heap.size + 1 + 1, 1, none⟩ = some (.slice none 0 0) := blk_cell hbx rfl; have HLR := Lib.hid hLR; have HB2 := Lib.hid hB2; have X0 := Lib.hid x0; clear hLR hbx hw2 hf2 hB2 x0)
  have hzr : w.heap.size < W2.heap.size := by omega
  go_region
  all_goals
    go_wp2
    refine bodyPost_ret (v := .tuple #[.slice la ls.length lc, .slice none 0 0, .agg #[.int .i64 0, .int .i64 0]]) (by simp [results, Tryz.results61, go_sem, World.cell?_alloc_lt, hzr, u0, u1]) rfl ⟨⟨_, rfl, ?_⟩, ?_⟩
    · exact HLR.out.below (((same_set X0.out rfl).trans (same_set (same_blk X0.out rfl) rfl)).alloc (by simp) _).drew (Nat.le_refl _)
    · exact (((HB2.out.setCell (Nat.le_refl _) _).setCell (Nat.le_refl _) _).alloc (by simp; omega) _).drew

end Go.Proofs.YtbpoiajpcahdhaaGreatDoor

namespace Go.Proofs.YtbpoiajpcahdhaaGreatDoor
open Go.RowKit

end Go.Proofs.YtbpoiajpcahdhaaGreatDoor

namespace Go.Proofs.YtbpoiajpcahdhaaGreatDoor
open Go.RowKit

/-- Whether a token is a comma. -/
def isComma (x : Tk) : Bool := x.k == 3 && x.t.toList == [44]
/-- What stands between commas, from a piece that was begun on. -/
def splitT : List Tk → List Tk → List (List Tk)
  | cur, [] => [cur]
  | cur, x :: r => if isComma x = true then cur :: splitT [] r else splitT (cur ++ [x]) r
/-- Split: nothing, if there is no token at all. -/
def piecesT (ts : List Tk) : List (List Tk) := if ts = [] then [] else splitT [] ts

theorem infoTx : (Tryz.prog.info? 135).map (fun i => (i.zero, i.size, i.bytes)) = some (some (.slice none 0 0), 1, 24) := by kernel_rfl

/-- A piece of a text. -/
theorem PReads.piece {w : World} {b o cap : Nat} {ts : List Tk} (h : PReads w (.slice (some ⟨b, o, none⟩) ts.length cap) ts) {i j : Nat} (hij : i ≤ j) (hj : j ≤ ts.length) (hi : i < ts.length) : PReads w (.slice (some ⟨b, o + i * 4, none⟩) (j - i) (cap - i)) ((ts.take j).drop i) := by
  obtain ⟨ad, cap', e, hc, hm, h⟩ := h
  injection e with e1 _ e3
  subst e1 e3
  obtain ⟨b', o', e', hlt, hcell⟩ := h (by omega)
  injection e' with e'
  injection e' with e1 e2 _
  subst e1 e2
  have hl : ((ts.take j).drop i).length = j - i := by simp; omega
  refine ⟨some ⟨b, o + i * 4, none⟩, cap - i, by rw [hl], by rw [hl]; omega, by omega, fun _ => ⟨b, o + i * 4, rfl, hlt, fun k hk => ?_⟩⟩
  rw [hl] at hk
  have := hcell (i + k) (by omega)
  rw [show o + (i + k) * 4 = o + i * 4 + k * 4 by omega] at this
  simpa using this

theorem split_nil (ad : Option Addr) (cap : Nat) (w : World) : Calls Tryz.prog 124 #[.slice ad 0 cap] w fun r w' => r = .returned (.slice none 0 0) ∧ w' = w := by
  go_enter Tryz.func124, Tryz.ntmps124
  go_wp2
  go_ret
  exact ⟨rfl, rfl⟩

/-- A row of texts, each one's tokens. -/
def TRow (w W : World) (base : Nat) (ov : Value) (vs : List Value) (ps : List (List Tk)) : Prop := W.ownsRow base 135 1 ov vs.length vs ∧ vs.length = ps.length ∧ ∀ i (h : i < vs.length) (h' : i < ps.length), PReads w vs[i] ps[i]

theorem TRow.app {w w1 : World} {oa : Option Addr} {oc : Nat} {vs : List Value} {done : List (List Tk)} (hr : TRow w w1 w.heap.size (.slice oa vs.length oc) vs done) (hb : Below w.heap.size w w1) (hl : vs.length ≤ 100000) (pa : Option Addr) (pn pc : Nat) (piece : List Tk) (hp : PReads w (.slice pa pn pc) piece) :
    ∃ la lc w2, (∀ ty, (Builtin.append_ #[213, 213] ty #[.slice oa vs.length oc, .slice (some ⟨w1.heap.size, 0, none⟩) 1 1]).run Tryz.prog (w1.alloc (.cells #[.slice pa pn pc] 135)) = .ok (.slice la (vs.length + 1) lc) w2) ∧
      TRow w w2 w.heap.size (.slice la (vs.length + 1) lc) (vs ++ [.slice pa pn pc]) (done ++ [piece]) ∧ Below w.heap.size w w2 := by
  have hrow := hr.1.alloc (.cells #[.slice pa pn pc] 135)
  obtain ⟨v', w2, happ, hr', hgr⟩ := app1 213 135 _ 1 24 Tryz.underlying213 infoTx rfl (by decide) (by decide) hrow (by have := hb.size; go_size) [.slice pa pn pc] rfl w1.heap.size (new_at _ _ rfl) (by intro u hu; simp at hu; subst hu; rfl) (by omega)
  obtain ⟨la, lc, rfl⟩ := row_shape hr'
  refine ⟨la, lc, w2, happ, ⟨by simpa using hr', by simp [hr.2.1], fun k h1 h2 => ?_⟩, ?_⟩
  · by_cases hk : k < vs.length
    · have hk2 : k < done.length := by rw [← hr.2.1]; exact hk
      rw [List.getElem_append_left hk, List.getElem_append_left hk2]
      exact hr.2.2 k hk hk2
    · have e : k = vs.length := by simp at h1; omega
      subst e
      have e2 : done.length = vs.length := hr.2.1.symm
      simp only [List.getElem_append_right (Nat.le_refl _), List.getElem_append_right (Nat.le_of_eq e2), Nat.sub_self, List.getElem_cons_zero, e2]
      exact hp
  · exact (hb.alloc hb.size _).grown hgr (by have := hb.size; go_size) (fun k hk => (hrow.lt k hk).1)
theorem PReads.none (w : World) (ad : Option Addr) (c : Nat) (h : c ≤ maxLen) : PReads w (.slice ad 0 c) [] := ⟨ad, c, rfl, Nat.zero_le _, h, fun h => by simp at h⟩

theorem splitT_comma {cur r : List Tk} {x : Tk} {done : List (List Tk)} {X : List (List Tk)} (h : X = done ++ splitT cur (x :: r)) (hx : isComma x = true) : X = (done ++ [cur]) ++ splitT [] r := by
  rw [h, splitT, if_pos hx]; simp
theorem splitT_other {cur r : List Tk} {x : Tk} {done : List (List Tk)} {X : List (List Tk)} (h : X = done ++ splitT cur (x :: r)) (hx : isComma x = false) : X = done ++ splitT (cur ++ [x]) r := by
  rw [h, splitT, if_neg (by simp [hx])]

set_option maxHeartbeats 4000000 in
set_option maxRecDepth 100000 in
theorem split_some (b o cap : Nat) (ts : List Tk) (w : World) (h : PReads w (.slice (some ⟨b, o, none⟩) ts.length cap) ts) (h0 : 0 < ts.length) (hn : ts.length ≤ 100000) :
    Calls Tryz.prog 124 #[.slice (some ⟨b, o, none⟩) ts.length cap] w fun r w' => (∃ ov vs, r = .returned ov ∧ TRow w w' w.heap.size ov vs (splitT [] ts)) ∧ Below w.heap.size w w' := by
  have HT := Lib.hid h
  obtain ⟨ad, cap', e, hc, hmx, hcl⟩ := h
  injection e with e1 _ e3
  subst e1 e3
  obtain ⟨b', o', e', hlt, hcell⟩ := hcl h0
  injection e' with e'
  injection e' with e1 e2 _
  subst e1 e2
  have HC := Lib.hid hcell
  clear hcl hcell
  have hne : ((ts.length : Int) == 0) = false := beq_eq_false_iff_ne.2 (by omega)
  unfold maxLen at hmx
  go_enter Tryz.func124, Tryz.ntmps124
  go_wp2_with fail
  go_loopw [3, 4, 12] (fun ov fv iv wr => ∃ (i f : Nat) (vs : List Value) (done : List (List Tk)), f ≤ i ∧ i ≤ ts.length ∧ iv = .int .i64 i ∧ fv = .int .i64 f ∧ Hid (TRow w wr w.heap.size ov vs done) ∧ Hid (Below w.heap.size w wr) ∧ vs.length ≤ i ∧ Hid (splitT [] ts = done ++ splitT ((ts.take i).drop f) (ts.drop i))) (fun _ _ iv _ => ts.length - (intOf iv).toNat)
  case atStart => exact ⟨0, 0, [], [], Nat.le_refl _, Nat.zero_le _, rfl, rfl, ⟨World.ownsRow_nil _ _ _ _, rfl, fun i h => by simp at h⟩, Below.refl _ _, Nat.le_refl _, by simp [Hid]⟩
  case round =>
    obtain ⟨i, f, vs, done, hf, hi, rfl, rfl, HR, HB, hvl, HS⟩ := hrel
    by_cases hlt2 : i < ts.length
    · have hi' : (i : Int) < ts.length := by omega
      obtain ⟨k0, k1, k2, k3⟩ := HC.out i hlt2
      have hz := HB.out.size
      replace k0 := (HB.out.cell (by show b < w.heap.size; exact hlt)).trans k0
      replace k1 := (HB.out.cell (by show b < w.heap.size; exact hlt)).trans k1
      replace k2 := (HB.out.cell (by show b < w.heap.size; exact hlt)).trans k2
      replace k3 := (HB.out.cell (by show b < w.heap.size; exact hlt)).trans k3
      have hb2 : b < wr.heap.size := by omega
      obtain ⟨x, hx⟩ : ∃ x, ts[i]'hlt2 = x := ⟨_, rfl⟩
      have HD : Hid (ts.drop i = x :: ts.drop (i + 1)) := by rw [← hx]; exact List.drop_eq_getElem_cons hlt2
      have HTK : Hid ((ts.take (i + 1)).drop f = (ts.take i).drop f ++ [x]) := by
        unfold Hid
        rw [List.take_succ_eq_append_getElem hlt2, hx, List.drop_append_of_le_length (by simp; omega)]
      have HPC : Hid (PReads w (.slice (some ⟨b, o + f * 4, none⟩) (i - f) (cap - f)) ((ts.take i).drop f)) := HT.out.piece hf hi (by omega)
      rw [hx] at k0 k1 k2
      clear hx
      obtain ⟨xk, xn, xt⟩ := x
      simp only at k0 k1 k2
      have HCM := Lib.hid fun W => comma_any xk xn xt W
      have HIC : Hid (isComma ⟨xk, xn, xt⟩ = (xk == 3 && xt.toList == [44])) := rfl
      unfold tokV at HCM
      obtain ⟨oa, oc, hov⟩ := row_shape HR.out.1
      subst hov
      cases hcm : (xk == 3 && xt.toList == [44])
      · rw [hcm] at HCM HIC
        have HS2 : Hid (splitT [] ts = done ++ splitT ((ts.take (i + 1)).drop f) (ts.drop (i + 1))) := by
          unfold Hid
          rw [HTK.out]
          exact splitT_other (by rw [← HD.out]; exact HS.out) HIC.out
        go_wp2_with (go_at_call 148; refine (HCM.out _).mono ?_; rintro e w1 ⟨rfl, hb1⟩; have HB1 : Hid (Below w.heap.size w w1) := Below.trans (by have hb := HB.out; go_grown) (hb1.mono (by go_size)); have HR1 : Hid (TRow w w1 w.heap.size (.slice oa vs.length oc) vs done) := ⟨Sc.owns_below (HR.out.1.alloc _) hb1 (Nat.le_refl _), HR.out.2⟩; clear hb1)
        exact ⟨⟨i + 1, f, vs, done, by omega, by omega, by go_num, rfl, HR1, HB1, by omega, HS2⟩, by simp [intOf]; omega⟩
      · rw [hcm] at HCM HIC
        have HS2 : Hid (splitT [] ts = (done ++ [(ts.take i).drop f]) ++ splitT ((ts.take (i + 1)).drop (i + 1)) (ts.drop (i + 1))) := by
          unfold Hid
          have e : (ts.take (i + 1)).drop (i + 1) = [] := List.drop_eq_nil_of_le (by simp; omega)
          rw [e]
          exact splitT_comma (by rw [← HD.out]; exact HS.out) HIC.out
        have hfi : (f : Int) ≤ i := by omega
        have hic : (i : Int) ≤ cap := by omega
        have hcf : ¬ cap - f = 0 := by omega
        go_wp2_with (first
          | (go_at_call 148; refine (HCM.out _).mono ?_; rintro e w1 ⟨rfl, hb1⟩; have HB1 : Hid (Below w.heap.size w w1) := Below.trans (by have hb := HB.out; go_grown) (hb1.mono (by go_size)); have HR1 : Hid (TRow w w1 w.heap.size (.slice oa vs.length oc) vs done) := ⟨Sc.owns_below (HR.out.1.alloc _) hb1 (Nat.le_refl _), HR.out.2⟩; obtain ⟨la, lc, w2, happ, hr2, hb2⟩ := HR1.out.app HB1.out (by omega) _ _ _ _ HPC.out; have HA := Lib.hid happ; have HR2 := Lib.hid hr2; have HB2 := Lib.hid hb2; clear hb1 happ hr2 hb2)
          | (at_builtin; refine wpList_app_eq rfl _ _ _ _ rfl _ _ rfl rfl HA.out ?_))
        exact ⟨⟨i + 1, i + 1, _, _, Nat.le_refl _, by omega, by go_num, by go_num, HR2, HB2, by simp; omega, HS2⟩, by simp [intOf]; omega⟩
    · obtain rfl : i = ts.length := by omega
      have hi' : ¬ ((ts.length : Nat) : Int) < ts.length := by omega
      obtain ⟨oa, oc, hov⟩ := row_shape HR.out.1
      subst hov
      have hfi : (f : Int) ≤ ts.length := by omega
      have hic : (ts.length : Int) ≤ cap := by omega
      have HE : Hid (splitT [] ts = done ++ [(ts.take ts.length).drop f]) := by
        have := HS.out
        rw [List.drop_length] at this
        exact this
      have hmx' : cap ≤ maxLen := by unfold maxLen; omega
      by_cases hcf : cap - f = 0
      · have e1 : f = ts.length := by omega
        have e2 : ts.length - f = 0 := by omega
        have HP : Hid (PReads w (.slice (some ⟨b, o, none⟩) (ts.length - f) 0) ((ts.take ts.length).drop f)) := by
          unfold Hid
          rw [List.take_length, e1, List.drop_length, Nat.sub_self]
          exact PReads.none w _ _ (Nat.zero_le _)
        obtain ⟨la, lc, w2, happ, hr2, hb2⟩ := HR.out.app HB.out (by omega) _ _ _ _ HP.out
        have HA := Lib.hid happ
        have HR2 := Lib.hid hr2
        have HB2 := Lib.hid hb2
        clear happ hr2 hb2 e1 e2
        go_wp2_with (at_builtin; refine wpList_app_eq rfl _ _ _ _ rfl _ _ rfl rfl HA.out ?_)
        go_ret
        refine ⟨?_, HB2.out⟩
        rw [HE.out]
        exact ⟨_, rfl, _, HR2.out⟩
      · have HP : Hid (PReads w (.slice (some ⟨b, o + f * 4, none⟩) (ts.length - f) (cap - f)) ((ts.take ts.length).drop f)) := by
          by_cases hfl : f < ts.length
          · exact HT.out.piece hf (Nat.le_refl _) hfl
          · have e1 : f = ts.length := by omega
            unfold Hid
            rw [List.take_length, e1, List.drop_length, Nat.sub_self]
            exact PReads.none w _ _ (by omega)
        obtain ⟨la, lc, w2, happ, hr2, hb2⟩ := HR.out.app HB.out (by omega) _ _ _ _ HP.out
        have HA := Lib.hid happ
        have HR2 := Lib.hid hr2
        have HB2 := Lib.hid hb2
        clear happ hr2 hb2
        go_wp2_with (at_builtin; refine wpList_app_eq rfl _ _ _ _ rfl _ _ rfl rfl HA.out ?_)
        go_ret
        refine ⟨?_, HB2.out⟩
        rw [HE.out]
        exact ⟨_, rfl, _, HR2.out⟩

/-- What stands between commas of any text of tokens alone. -/
theorem split_any (v : Value) (ts : List Tk) (w : World) (h : PReads w v ts) (hn : ts.length ≤ 100000) :
    Calls Tryz.prog 124 #[v] w fun r w' => (∃ ov vs, r = .returned ov ∧ TRow w w' w.heap.size ov vs (piecesT ts)) ∧ Below w.heap.size w w' := by
  obtain ⟨ad, cap, rfl, hc, hm, hcl⟩ := id h
  cases ts with
  | nil =>
    refine (split_nil ad cap w).mono ?_
    rintro e w' ⟨rfl, rfl⟩
    exact ⟨⟨_, [], rfl, World.ownsRow_nil _ _ _ _, rfl, fun i h => by simp at h⟩, Below.refl _ _⟩
  | cons x r =>
    obtain ⟨b, o, rfl, hlt, _⟩ := hcl (by simp)
    refine (split_some b o cap (x :: r) w h (by simp) hn).mono ?_
    rintro e w' ⟨h1, h2⟩
    exact ⟨by simpa [piecesT] using h1, h2⟩

end Go.Proofs.YtbpoiajpcahdhaaGreatDoor
