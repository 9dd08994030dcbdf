/- Macro: Short of lines that stand for themselves. expr's Add of one token; Macro's expression and First of a text of one token. -/
import Derived.Test.YtagkmgdjkailkaaGreatDoorPut21
import Derived.Test.YtagkmgdjkailkaaGreatDoorPut22
import Derived.Test.YtagkmgdjkailkaaGreatDoorPut13
namespace Go.Proofs.YtagkmgdjkailkaaGreatDoor
open Go.RowKit

/-- A slice reads as lines: each one's number and tokens. -/
def LRd (W : World) (v : Value) (ls : List (Int × List Tk)) : Prop :=
  ∃ ad cap, v = .slice ad ls.length cap ∧ ls.length ≤ maxLen ∧ (0 < ls.length → ∃ b o, ad = some ⟨b, o, none⟩ ∧ b < W.heap.size ∧ ∀ i (h : i < ls.length), ∃ td tn tc, W.cell? ⟨b, o + i * 2, none⟩ = some (.slice td tn tc) ∧ W.cell? ⟨b, o + i * 2 + 1, none⟩ = some (.int .i64 ls[i].1) ∧ PReads W (.slice td tn tc) ls[i].2)

theorem LRd.below {w w' : World} {B : Nat} {v : Value} {ls : List (Int × List Tk)} (h : LRd w v ls) (hb : Below B w w') (hB : w.heap.size ≤ B) : LRd w' v ls := by
  obtain ⟨ad, cap, rfl, hm, h⟩ := h
  refine ⟨ad, cap, rfl, hm, fun h0 => ?_⟩
  obtain ⟨b, o, rfl, hlt, hcell⟩ := h h0
  refine ⟨b, o, rfl, Nat.lt_of_lt_of_le hlt hb.size, fun i hi => ?_⟩
  obtain ⟨td, tn, tc, h1, h2, h3⟩ := hcell i hi
  exact ⟨td, tn, tc, by rw [hb.cell (by show b < B; omega)]; exact h1, by rw [hb.cell (by show b < B; omega)]; exact h2, h3.below hb hB⟩

/-- What is put is what lies there. -/
theorem same_blk {w : World} {q i : Nat} {c : Array Value} {t : TypeId} {v : Value} (h : w.heap[q]? = some (.cells c t (0, 0))) (hv : c[i]? = some v) : (w.setCell ⟨q, i, none⟩ v).heap[q]? = some (.cells c t (0, 0)) := by
  rw [blk_set h]
  obtain ⟨hi, e⟩ := Array.getElem?_eq_some_iff.1 hv
  have : c.setIfInBounds i v = c := by
    apply Array.ext (by simp)
    intro j h1 h2
    rw [Array.getElem_setIfInBounds (by simpa using h1)]
    split
    · next hij => subst hij; exact e.symm
    · rfl
  rw [this]
theorem same_set {w : World} {B q i : Nat} {c : Array Value} {t : TypeId} {v : Value} (h : w.heap[q]? = some (.cells c t (0, 0))) (hv : c[i]? = some v) : Below B w (w.setCell ⟨q, i, none⟩ v) := by
  refine ⟨rfl, rfl, rfl, by simp, fun j hj => ?_⟩
  by_cases e : j = q
  · subst e
    rw [same_blk h hv, h]
  · exact Below.heap_setCell _ _ _ _ e

/-- Lines as stage 2 has them, as Short reads them. -/
def lnOf (l : Sc.Ln) : Int × List Tk := (l.pos, l.toks.map tkOf)

theorem PReads.shape {w : World} {v : Value} {ts : List Tk} (h : PReads w v ts) : ∃ ad len cap, v = .slice ad len cap := by
  obtain ⟨ad, cap, rfl, _⟩ := h
  exact ⟨_, _, _, rfl⟩

theorem lnC_at : ∀ (ps : List (Value × Int)) (i : Nat) (h : i < ps.length), (lnC ps)[i * 2]? = some ps[i].1 ∧ (lnC ps)[i * 2 + 1]? = some (.int .i64 ps[i].2)
  | [], i, h => by simp at h
  | p :: r, 0, h => by simp [lnC]
  | p :: r, i + 1, h => by
    have ih := lnC_at r i (by simpa using h)
    have e : lnC (p :: r) = [p.1, .int .i64 p.2] ++ lnC r := by simp [lnC]
    rw [e, show (i + 1) * 2 = 2 + i * 2 by omega]
    simp only [List.getElem_cons_succ]
    refine ⟨?_, ?_⟩
    · rw [List.getElem?_append_right (by simp)]; simpa using ih.1
    · rw [List.getElem?_append_right (by simp; omega)]; simpa [show 2 + i * 2 + 1 - 2 = i * 2 + 1 by omega] using ih.2

/-- A row of one's own, of lines, reads so. -/
theorem lrd_of {W : World} {base : Nat} {v : Value} {ps : List (Value × Int)} {ls : List (Int × List Tk)} (h : W.ownsRow base 83 2 v ps.length (lnC ps)) (hl : ls.length = ps.length) (hp : ∀ i (h : i < ps.length), ps[i].2 = (ls[i]'(by omega)).1 ∧ PReads W ps[i].1 (ls[i]'(by omega)).2) : LRd W v ls := by
  rcases id h.2 with ⟨hv, h0⟩ | ⟨g, cap, cur, rfl, hg, hgg, hle, hm, rest⟩
  · refine ⟨none, 0, by rw [hv, hl, h0], by rw [hl, h0]; exact Nat.zero_le _, fun h => by omega⟩
  · refine ⟨some ⟨g, 0, none⟩, cap, by rw [hl], by omega, fun _ => ⟨g, 0, rfl, blk_lt hgg, fun i hi => ?_⟩⟩
    have hi' : i < ps.length := by omega
    obtain ⟨a, b⟩ := lnC_at ps i hi'
    obtain ⟨e1, e2⟩ := hp i hi'
    obtain ⟨td, tn, tc, e3⟩ := e2.shape
    have hadd : ∀ j, (⟨g, 0, none⟩ : Addr).add j = ⟨g, 0 + j, none⟩ := fun j => by unfold Addr.add; split <;> simp_all
    have k0 := h.cells rfl _ _ a
    have k1 := h.cells rfl _ _ b
    rw [hadd] at k0 k1
    rw [e3] at k0 e2
    rw [e1] at k1
    exact ⟨td, tn, tc, k0, k1, e2⟩

set_option maxHeartbeats 2000000 in
theorem short_any (v : Value) (ls : List Sc.Ln) (w : World) (h : LIn w v ls) (hn : ls.length ≤ 200) (hts : ∀ l, l ∈ ls → l.toks.length ≤ 100000) (hp : ∀ l, l ∈ ls → PlainHead (headS (l.toks.map tkOf))) :
    Calls Tryz.prog 14 #[v] w fun r w' => (∃ lv, r = .returned (.tuple #[lv, .slice none 0 0, .agg #[.int .i64 0, .int .i64 0]]) ∧ LRd w' lv (ls.map lnOf)) ∧ Below w.heap.size w w' := by
  have hmm : ∀ w, (Instr.makeMap 70 none).run Tryz.prog w = .ok (.map (some w.heap.size)) (w.alloc (.map #[] 0)) := fun w => rfl
  obtain ⟨ad, cap, rfl, _⟩ := id h
  have HI := Lib.hid h
  have HP := Lib.hid hp
  have HTS := Lib.hid hts
  clear h hp hts
  go_enter Tryz.func14, Tryz.ntmps14
  go_wp2_with fail
  have hB0 : Below w.heap.size w (((w.alloc (.cells #[.int .i64 0, .int .i64 0] 31)).alloc (.map #[] 0)).alloc (.cells #[.slice none 0 0, .slice none 0 0, .map (some (w.heap.size + 1)), .int .i64 0] 72)) := by go_grown
  have hb1 : (((w.alloc (.cells #[.int .i64 0, .int .i64 0] 31)).alloc (.map #[] 0)).alloc (.cells #[.slice none 0 0, .slice none 0 0, .map (some (w.heap.size + 1)), .int .i64 0] 72)).heap[w.heap.size + 1 + 1]? = some (.cells #[.slice none 0 0, .slice none 0 0, .map (some (w.heap.size + 1)), .int .i64 0] 72 (0, 0)) := new_at _ _ (by go_size)
  have hb2 : (((w.alloc (.cells #[.int .i64 0, .int .i64 0] 31)).alloc (.map #[] 0)).alloc (.cells #[.slice none 0 0, .slice none 0 0, .map (some (w.heap.size + 1)), .int .i64 0] 72)).heap[w.heap.size + 1]? = some (.map #[] 0) := by
    rw [old2 _ _ (by go_size)]
    exact new_at _ _ (by go_size)
  have hb3 : (((w.alloc (.cells #[.int .i64 0, .int .i64 0] 31)).alloc (.map #[] 0)).alloc (.cells #[.slice none 0 0, .slice none 0 0, .map (some (w.heap.size + 1)), .int .i64 0] 72)).heap[w.heap.size]? = some (.cells #[.int .i64 0, .int .i64 0] 31 (0, 0)) := by
    rw [old2 _ _ (by go_size), old2 _ _ (by go_size)]
    exact new_at _ _ (by go_size)
  have hz0 : (((w.alloc (.cells #[.int .i64 0, .int .i64 0] 31)).alloc (.map #[] 0)).alloc (.cells #[.slice none 0 0, .slice none 0 0, .map (some (w.heap.size + 1)), .int .i64 0] 72)).heap.size = w.heap.size + 3 := by simp
  generalize (((w.alloc (.cells #[.int .i64 0, .int .i64 0] 31)).alloc (.map #[] 0)).alloc (.cells #[.slice none 0 0, .slice none 0 0, .map (some (w.heap.size + 1)), .int .i64 0] 72)) = W0 at *
  have hI0 : LIn W0 (.slice ad ls.length cap) ls := by
    obtain ⟨ad', cap', e, hh⟩ := HI.out
    refine ⟨ad', cap', e, fun h0 => ?_⟩
    obtain ⟨b, o, rfl, hlt, hc⟩ := hh h0
    refine ⟨b, o, rfl, by omega, fun i hi => ?_⟩
    obtain ⟨tv, a1, a2, a3⟩ := hc i hi
    exact ⟨tv, by rw [hB0.cell (by exact hlt)]; exact a1, by rw [hB0.cell (by exact hlt)]; exact a2, a3.below hB0 (Nat.le_refl _)⟩
  refine (read_any _ ls W0 hI0 (by omega) HTS.out).mono ?_
  rintro e W1 ⟨rfl, ⟨f, hf⟩, hB1⟩
  have hz1 : W0.heap.size < W1.heap.size := hf.1.lt
  have hW1 : WR W1 W1.heap.size (w.heap.size + 1 + 1) (.slice none 0 0) (w.heap.size + 1) 0 [] := ⟨by rw [hB1.block _ (by omega)]; exact hb1, by simpa [lnC] using World.ownsRow_nil W1 _ _ _, by rw [hB1.block _ (by omega)]; exact hb2, by omega⟩
  have hlen : ((List.range ls.length).map f).length = ls.length := by simp
  have HD := Lib.hid (do_any (w.heap.size + 1 + 1) (w.heap.size + 1) (.slice none 0 0) 0 [] W0.heap.size 0 ls.length ((List.range ls.length).map f) (ls.map fun l => l.toks.map tkOf) 0 W1 W1.heap.size (Nat.le_refl _) hW1 (by omega) (by omega) (by simpa using hn) (by omega) (by rw [hlen]; omega) (by rw [hlen]; exact Nat.le_refl _) (by unfold maxLen; omega) (by simp)
    (fun W hF => by
      have hk := hF.block W0.heap.size (by omega) (by omega)
      refine ⟨Nat.lt_of_lt_of_le hz1 hF.size, fun i hi => ?_⟩
      have hi' : i < ls.length := by simpa using hi
      obtain ⟨a1, a2, a3⟩ := hf.2.1 i hi' hi'
      have hr := hf.1.keep hk
      have hcc := hr.cell0 hi'
      have hcd := hr.cell1 hi'
      have hpr := a2.fr (fun e => by have := a3 _ e; omega) hF (Nat.le_refl _)
      simp only [List.getElem_map, List.getElem_range, Nat.zero_add]
      exact ⟨hpr.shape, hcc, hcd, hpr⟩)
    (fun t ht => by
      obtain ⟨l, hl, rfl⟩ := List.mem_map.1 ht
      exact HP.out l hl))
  rw [hlen] at HD
  have HAft : Hid (∀ W2, (∃ lv', WR W2 W1.heap.size (w.heap.size + 1 + 1) lv' (w.heap.size + 1) (0 + ls.length) ([] ++ (List.range ls.length).map f)) → Fr (w.heap.size + 1 + 1) W1.heap.size W1 W2 →
      W2.heap[w.heap.size]? = some (.cells #[.int .i64 0, .int .i64 0] 31 (0, 0)) ∧ Below w.heap.size w W2 ∧ ∃ la lc, LRd W2 (.slice la ls.length lc) (ls.map lnOf) ∧ W2.heap[w.heap.size + 1 + 1]? = some (.cells #[.slice la ls.length lc, .slice none 0 0, .map (some (w.heap.size + 1)), .int .i64 (0 + ls.length)] 72 (0, 0))) := fun W2 hw hF => by
    obtain ⟨lv', h2⟩ := hw
    refine ⟨?_, ?_, ?_⟩
    · rw [hF.block _ (by omega) (by omega), hB1.block _ (by omega)]
      exact hb3
    · have h01 : Below w.heap.size w W1 := hB0.trans (hB1.mono (by omega))
      exact ⟨hF.os.trans h01.os, hF.tape.trans h01.tape, hF.output.trans h01.output, Nat.le_trans h01.size hF.size, fun i hi => (hF.block i (by omega) (by omega)).trans (h01.block i hi)⟩
    · have hsh := row_shape h2.row
      obtain ⟨la, lc, e⟩ := hsh
      have el : ([] ++ (List.range ls.length).map f).length = ls.length := by simp
      rw [el] at e
      subst e
      refine ⟨la, lc, ?_, h2.box⟩
      refine lrd_of h2.row (by simp) fun i hi => ?_
      have hi' : i < ls.length := by simpa using hi
      obtain ⟨a1, a2, a3⟩ := hf.2.1 i hi' hi'
      have hpr := a2.fr (fun e => by have := a3 _ e; omega) hF (Nat.le_refl _)
      simp only [List.nil_append, List.getElem_map, List.getElem_range, lnOf]
      exact ⟨a1, hpr⟩
  clear hf hB1 hW1 hb1 hb2 hb3 hI0 hB0 HTS HP HI hlen hz0 hz1
  go_wp2_with (go_at_call 23; refine HD.out.mono ?_; rintro e W2 ⟨rfl, hw2, hf2⟩; obtain ⟨x0, hB2, la, lc, hLR, hbx⟩ := HAft.out W2 hw2 hf2; obtain ⟨⟨u0, u1⟩, f0, f1⟩ := var2_of x0; have hz2 := blk_lt hbx; have d0 : W2.cell? ⟨w.heap.size + 1 + 1, 0, none⟩ = some (.slice la ls.length lc) := blk_cell hbx rfl; have d1 : W2.cell? ⟨w.heap.size + 1 + 1, 1, none⟩ = some (.slice none 0 0) := blk_cell hbx rfl; have HLR := Lib.hid hLR; have HB2 := Lib.hid hB2; have X0 := Lib.hid x0; clear hLR hbx hw2 hf2 hB2 x0)
  have hzr : w.heap.size < W2.heap.size := by omega
  go_region
  all_goals
    go_wp2
    refine bodyPost_ret (v := .tuple #[.slice la ls.length lc, .slice none 0 0, .agg #[.int .i64 0, .int .i64 0]]) (by simp [results, Tryz.results14, go_sem, World.cell?_alloc_lt, hzr, u0, u1]) rfl ⟨⟨_, rfl, ?_⟩, ?_⟩
    · exact HLR.out.below (((same_set X0.out rfl).trans (same_set (same_blk X0.out rfl) rfl)).alloc (by simp) _).drew (Nat.le_refl _)
    · exact (((HB2.out.setCell (Nat.le_refl _) _).setCell (Nat.le_refl _) _).alloc (by simp; omega) _).drew

end Go.Proofs.YtagkmgdjkailkaaGreatDoor

namespace Go.Proofs.YtagkmgdjkailkaaGreatDoor
open Go.RowKit

/-- A token that is an expression: a number, or a name; the value's name and number. -/
def AtomK (k n : Int) (t : ByteArray) (nm : ByteArray) (v : Int) : Prop := (k = 2 ∧ nm = ⟨#[]⟩ ∧ v = wrap32 n) ∨ (k = 1 ∧ nm = t ∧ v = 0 ∧ Xp.nameR t.data.toList = true)

theorem next_atom (g q : Nat) (u : Bool) (k n : Int) (t nm : ByteArray) (v : Int) (hk : AtomK k n t nm v) (w : World) (hL : Xp.KLaid w) (h : PR w g q ⟨#[]⟩ false (.slice none 0 0) u 0 false ⟨#[]⟩ 0) :
    Calls Tryz.prog 206 #[.pointer (some ⟨g, 0, none⟩), tokV k n t] w fun r w' => r = .returned (.int .i64 0) ∧ PR w' g q ⟨#[]⟩ true (.slice none 0 0) u 0 true nm v ∧ F2 g q w w' := by
  rcases hk with ⟨rfl, rfl, rfl⟩ | ⟨rfl, rfl, rfl, hn⟩
  · exact next_num g q u n t w hL h
  · exact next_name g q u n _ hn w hL h

theorem add_atom (g q : Nat) (u : Bool) (k n : Int) (t nm : ByteArray) (v : Int) (hk : AtomK k n t nm v) (w : World) (hL : Xp.KLaid w) (h : PR w g q ⟨#[]⟩ false (.slice none 0 0) u 0 false ⟨#[]⟩ 0) :
    Calls Tryz.prog 182 #[.pointer (some ⟨g, 0, none⟩), tokV k n t] w fun r w' => r = .returned (.tuple #[]) ∧ PR w' g q ⟨#[]⟩ true (.slice none 0 0) u 0 true nm v ∧ F2 g q w w' := by
  have c1 : w.cell? ⟨g, 1, none⟩ = some (.bool false) := blk_cell h.pt rfl
  have c6 : w.cell? ⟨g, 6, none⟩ = some (.int .i64 0) := blk_cell h.pt rfl
  have hg := blk_lt h.pt
  have HN := Lib.hid fun W (hb : Below w.heap.size w W) => next_atom g q u k n t nm v hk W (KL.below hL hb) (h.go hb)
  clear h hL hk
  unfold tokV at *
  go_enter Tryz.func182, Tryz.ntmps182
  go_wp2_with fail
  refine (HN.out _ (oalloc _ _)).mono ?_
  rintro e w1 ⟨rfl, hp1, hb1⟩
  have d6 : w1.cell? ⟨g, 6, none⟩ = some (.int .i64 0) := blk_cell hp1.pt rfl
  have f6 : w1.frozen? ⟨g, 6, none⟩ = false := blk_froz hp1.pt
  have hg1 := blk_lt hp1.pt
  have HP1 := Lib.hid hp1
  have HB1 := Lib.hid hb1
  clear hp1 hb1
  go_wp2
  refine bodyPost_end (v := .tuple #[]) (by simp [results, Tryz.results182, go_sem]) rfl ⟨rfl, ?_, ?_⟩
  · exact HP1.out.go (same_set HP1.out.pt rfl)
  · exact ((F2.below (oalloc _ _)).trans HB1.out).trans (F2.below (same_set HP1.out.pt rfl))

theorem rread_no (gr go' b o len cap : Nat) (gp : Nat) (w : World) (c0 : w.cell? ⟨gr, go', none⟩ = some (.slice (some ⟨b, o, none⟩) (len + 1) cap)) (c1 : w.cell? ⟨gr, go' + 1, none⟩ = some (.pointer (some ⟨gp, 0, none⟩))) (c6 : w.cell? ⟨gp, 6, none⟩ = some (.int .i64 0)) :
    Calls Tryz.prog 181 #[.pointer (some ⟨gr, go', none⟩)] w fun r w' => r = .returned (.bool false) ∧ w = w' := by
  have h1 : ((len : Int) + 1 == 0) = false := by simp; omega
  go_enter Tryz.func181, Tryz.ntmps181
  go_wp2_with (go_at_call 187; refine (err_any gp 0 _ c6).mono ?_; rintro e w' ⟨rfl, rfl⟩)
  go_ret
  exact ⟨rfl, rfl⟩
theorem rread_yes (gr go' cap : Nat) (ad : Option Addr) (w : World) (c0 : w.cell? ⟨gr, go', none⟩ = some (.slice ad 0 cap)) :
    Calls Tryz.prog 181 #[.pointer (some ⟨gr, go', none⟩)] w fun r w' => r = .returned (.bool true) ∧ w = w' := by
  go_enter Tryz.func181, Tryz.ntmps181
  go_wp2_with fail
  go_ret
  exact ⟨rfl, rfl⟩

set_option maxHeartbeats 2000000 in
theorem expression_atom (b o cap : Nat) (k n : Int) (t nm : ByteArray) (v : Int) (hk : AtomK k n t nm v) (w : World) (hL : Xp.KLaid w) (hb : b < w.heap.size) (_ : cap + 1 ≤ maxLen)
    (c0 : w.cell? ⟨b, o, none⟩ = some (.int .i64 k)) (c1 : w.cell? ⟨b, o + 1, none⟩ = some (.int .i64 n)) (c2 : w.cell? ⟨b, o + 2, none⟩ = some (.string t)) (c3 : w.cell? ⟨b, o + 3, none⟩ = some (.pointer none)) :
    Calls Tryz.prog 147 #[.slice (some ⟨b, o, none⟩) 1 (cap + 1), .slice none 0 0] w fun r w' => (∃ g q, r = .returned (.pointer (some ⟨g, 0, none⟩)) ∧ PR w' g q ⟨#[]⟩ true (.slice none 0 0) false 0 true nm v) ∧ Below w.heap.size w w' := by
  have hmm : ∀ w, (Instr.makeMap 262 none).run Tryz.prog w = .ok (.map (some w.heap.size)) (w.alloc (.map #[] 0)) := fun w => rfl
  have HL := Lib.hid hL
  clear hL
  go_enter Tryz.func147, Tryz.ntmps147
  go_wp2_with fail
  refine (from_any ⟨#[]⟩ false none 0 0 _).mono ?_
  rintro e w1 ⟨⟨g, q, rfl, hg, hq, hp1⟩, hb1⟩
  have hB1 : Below w.heap.size w w1 := Below.trans (by go_grown) (hb1.mono (by go_size))
  have d0 := (hB1.cell (by show b < w.heap.size; exact hb)).trans c0
  have d1 := (hB1.cell (by show b < w.heap.size; exact hb)).trans c1
  have d2 := (hB1.cell (by show b < w.heap.size; exact hb)).trans c2
  have d3 := (hB1.cell (by show b < w.heap.size; exact hb)).trans c3
  have hb' : b < w1.heap.size := Nat.lt_of_lt_of_le hb hB1.size
  have HP1 := Lib.hid hp1
  have HB1 := Lib.hid hB1
  have hg1 := blk_lt hp1.pt
  have hq1 := blk_lt hp1.ch
  simp only [World.size_alloc] at hg hq
  clear hb1 hB1 hp1
  go_wp2_with fail
  have hr2 : (w1.alloc (.cells #[.slice (some ⟨b, o, none⟩) 1 (cap + 1), .pointer (some ⟨g, 0, none⟩), .pointer none, .string ⟨#[]⟩, .bool false] 269)).heap[w1.heap.size]? = some (.cells #[.slice (some ⟨b, o, none⟩) 1 (cap + 1), .pointer (some ⟨g, 0, none⟩), .pointer none, .string ⟨#[]⟩, .bool false] 269 (0, 0)) := new_at _ _ rfl
  have hb2 : Below w1.heap.size w1 (w1.alloc (.cells #[.slice (some ⟨b, o, none⟩) 1 (cap + 1), .pointer (some ⟨g, 0, none⟩), .pointer none, .string ⟨#[]⟩, .bool false] 269)) := oalloc _ _
  generalize w1.alloc (.cells #[.slice (some ⟨b, o, none⟩) 1 (cap + 1), .pointer (some ⟨g, 0, none⟩), .pointer none, .string ⟨#[]⟩, .bool false] 269) = W2 at *
  replace d0 := (hb2.cell (by show b < w1.heap.size; exact hb')).trans d0
  replace d1 := (hb2.cell (by show b < w1.heap.size; exact hb')).trans d1
  replace d2 := (hb2.cell (by show b < w1.heap.size; exact hb')).trans d2
  replace d3 := (hb2.cell (by show b < w1.heap.size; exact hb')).trans d3
  have hz2 := blk_lt hr2
  have x0 : W2.cell? ⟨w1.heap.size, 0, none⟩ = some (.slice (some ⟨b, o, none⟩) 1 (cap + 1)) := blk_cell hr2 rfl
  have x1 : W2.cell? ⟨w1.heap.size, 1, none⟩ = some (.pointer (some ⟨g, 0, none⟩)) := blk_cell hr2 rfl
  have hpt := (HP1.out.go hb2).pt
  have x6 : W2.cell? ⟨g, 6, none⟩ = some (.int .i64 0) := blk_cell hpt rfl
  have HR2 := Lib.hid hr2
  have HB2 : Hid (Below w.heap.size w W2) := HB1.out.trans (hb2.mono (by have := HB1.out.size; omega))
  have HRD := Lib.hid (rread_no w1.heap.size 0 b o 0 (cap + 1) g W2 x0 x1 x6)
  have HAD := Lib.hid fun W (hb : Below W2.heap.size W2 W) => add_atom g q false k n t nm v hk W (KL.below (KL.below HL.out HB2.out) hb) ((HP1.out.go hb2).go hb)
  have hsz := HB1.out.size
  clear hr2 hb2 hpt HB1 c0 c1 c2 c3 hk HL
  unfold tokV at HAD
  refine wp_loop_rounds 2 ?_
  rw [rounds_succ]
  obtain ⟨ad', HA'⟩ : ∃ ad' : Option Addr, Hid ((if cap = 0 then some (⟨b, o, none⟩ : Addr) else some ⟨b, o + 4, none⟩) = ad') := ⟨_, Lib.hid rfl⟩
  go_wp2_with (go_at_call 181; refine HRD.out.mono ?_; rintro e w' ⟨rfl, rfl⟩)
  go_region_with (go_at_call 182; refine (HAD.out _ (Below.refl _ _).drew).mono ?_; rintro e w3 ⟨rfl, hp3, hf3⟩; have hr3 := (hf3.block _ hz2 (by omega) (by omega)).trans HR2.out; have y0 : w3.cell? ⟨w1.heap.size, 0, none⟩ = some (.slice (some ⟨b, o, none⟩) 1 (cap + 1)) := blk_cell hr3 rfl; have y1 : w3.frozen? ⟨w1.heap.size, 0, none⟩ = false := blk_froz hr3; have y2 : w3.cell? ⟨w1.heap.size, 1, none⟩ = some (.pointer (some ⟨g, 0, none⟩)) := blk_cell hr3 rfl; have hz3 := blk_lt hr3; have HR3 := Lib.hid hr3; have HP3 := Lib.hid hp3; have HF3 := Lib.hid hf3; clear hr3 hp3 hf3)
  all_goals go_wp2_with fail
  all_goals
    rw [rounds_succ]
    go_wp2_with (go_at_call 181; refine (rread_yes _ _ _ _ _ (blk_cell (blk_set HR3.out) rfl)).mono ?_; rintro e w' ⟨rfl, rfl⟩)
    go_returns
    refine ⟨⟨g, q, rfl, ?_⟩, ?_⟩
    · exact ⟨by rw [Below.heap_setCell _ _ _ _ (by show g ≠ w1.heap.size; omega)]; exact HP3.out.pt, by rw [Below.heap_setCell _ _ _ _ (by show q ≠ w1.heap.size; omega)]; exact HP3.out.ch⟩
    · exact (HB2.out.trans ((Below.refl _ _).drew.trans (HF3.out.to (by omega) (by omega) (by show w.heap.size ≤ W2.heap.size; omega)))).setCell (by omega) _

/-- The value of a text of one token that is an expression. -/
theorem mfirst_atom (v : Value) (x : Tk) (nm : ByteArray) (n : Int) (hk : AtomK x.k x.n x.t nm n) (w : World) (hL : Xp.KLaid w) (h : PReads w v [x]) :
    Calls Tryz.prog 154 #[v, .slice none 0 0] w fun r w' => r = .returned (.tuple #[.agg #[.string nm, .int .i64 n], .bool true, .int .i64 0]) ∧ Below w.heap.size w w' := by
  obtain ⟨ad, cap, rfl, hc, hm, h⟩ := h
  obtain ⟨b, o, rfl, hb, hcell⟩ := h (by simp)
  have c := hcell 0 (by simp)
  simp only [Nat.zero_mul, Nat.add_zero, List.getElem_cons_zero] at c
  obtain ⟨c0, c1, c2, c3⟩ := c
  obtain ⟨cap, rfl⟩ : ∃ k, cap = k + 1 := ⟨cap - 1, by simp at hc; omega⟩
  have HE := Lib.hid fun W (hb' : Below w.heap.size w W) => expression_atom b o cap x.k x.n x.t nm n hk W (KL.below hL hb') (Nat.lt_of_lt_of_le hb hb'.size) hm (by rw [hb'.cell (by exact hb)]; exact c0) (by rw [hb'.cell (by exact hb)]; exact c1) (by rw [hb'.cell (by exact hb)]; exact c2) (by rw [hb'.cell (by exact hb)]; exact c3)
  clear hL hcell h hk c0 c1 c2 c3
  simp only [List.length_singleton]
  go_enter Tryz.func154, Tryz.ntmps154
  go_wp2_with fail
  refine (HE.out _ (oalloc _ _)).mono ?_
  rintro e w1 ⟨⟨g, q, rfl, hp1⟩, hb1⟩
  obtain ⟨hB1, hz1, xr⟩ := box_keep hb1
  have HB1 := Lib.hid hB1
  have XR := Lib.hid xr
  have HF := Lib.hid fun W (hb : Below w1.heap.size w1 W) => first_one g q _ nm n 0 W (hp1.go hb)
  have HP1 := Lib.hid hp1
  clear hb1 hB1 xr hp1 HE
  go_wp2_with (go_at_call 185; refine (HF.out _ (Below.refl _ _)).mono ?_; rintro e w2 ⟨rfl, hb2⟩; have HB2 := Lib.hid (HB1.out.trans (hb2.mono (by omega))); have HP2 := Lib.hid (HP1.out.go hb2); have xr2 := (hb2.block _ hz1).trans XR.out; obtain ⟨⟨u0, u1⟩, f0, f1⟩ := var2_of xr2; have hz2 := blk_lt xr2; clear hb2 xr2)
  have HE6 : Hid (∀ W, Below w2.heap.size w2 W → Calls Tryz.prog 187 #[.pointer (some ⟨g, 0, none⟩)] W fun r w' => r = .returned (.int .i64 0) ∧ w' = W) := fun W hb => err_any g 0 W (blk_cell (HP2.out.go hb).pt rfl)
  clear HP1 HF XR
  go_region_with (go_at_call 187; refine (HE6.out _ (by go_grown)).mono ?_; rintro e w3 ⟨rfl, rfl⟩)
  all_goals
    go_wp2
    refine bodyPost_ret (v := .tuple #[.agg #[.string nm, .int .i64 n], .bool true, .int .i64 0]) (by simp [results, Tryz.results154, go_sem, World.cell?_alloc_lt, hz2, u0, u1]) rfl ⟨rfl, ?_⟩
    have hb := HB2.out
    go_grown

end Go.Proofs.YtagkmgdjkailkaaGreatDoor
