/- asm: the unit of a source some of whose lines are blocks of .rept, whatever its lines make. asm: whether a branch must be long. asm: branches made long that must be. asm: lengthen of any items. asm: the bytes of a branch that leads far. asm: places laid, where branches may have to be long. asm: lay, where a branch may have to be long: one round, or two. asm: all written, where branches may be long. asm: the unit of the three lines built. -/
import Derived.Test.YtgjmbjahgcndnaaGreatDoorPut39
import Derived.Test.YtgjmbjahgcndnaaGreatDoorPut34
import Derived.Test.YtgjmbjahgcndnaaGreatDoorPut37
import Derived.Test.YtgjmbjahgcndnaaGreatDoorPut32
namespace Go.Proofs.YtgjmbjahgcndnaaGreatDoor
open Go.RowKit

set_option maxHeartbeats 4000000 in
theorem unit_rep (v : Value) (src : List UInt8) (lns : List Sc.Ln) (pl : List Pl) (o : Ob) (w : World) (hv : Sc.BReads w v src) (hsrc : Sc.srcLines src = .ok lns) (hln : lns.length ≤ 1000) (hpl : PlOk lns 0 pl) (ho : (idxOf 0 pl).length ≤ 200) (hk : lkOf pl ≤ 4000) (hts : ∀ x, x ∈ lns → x.toks.length ≤ 100000) (hX : Xp.KLaid w) (hG : Sc.Glob w)
    (hbd : ∀ v W, Below w.heap.size w W → LRd W v ((plLines lns pl).map lnOf) → Calls Tryz.prog 44 #[v, .slice none 0 0] W fun r w' => (∃ ca cl cc sa sl sc qa ql qc, r = .returned (.tuple #[.agg #[.slice ca cl cc, .slice sa sl sc, .slice qa ql qc], .agg #[.int .i64 0, .int .i64 0]]) ∧ ObjAt w' (.slice ca cl cc) (.slice sa sl sc) (.slice qa ql qc) o) ∧ Below W.heap.size W w') :
    Calls Tryz.prog 23 #[v] w fun r w' => (∃ ca cl cc sa sl sc qa ql qc, r = .returned (.tuple #[.agg #[.slice ca cl cc, .slice sa sl sc, .slice qa ql qc], .agg #[.int .i64 0, .int .i64 0]]) ∧ ObjAt w' (.slice ca cl cc) (.slice sa sl sc) (.slice qa ql qc) o) ∧ Below w.heap.size w w' := by
  have hs := Sc.src_ok hsrc
  have HLN := Lib.hid fun W (hb : Below w.heap.size w W) => Sc.lines_any v (src) W (hG.below hb hG.sz) (by
    obtain ⟨ad, cap, rfl, hm, hc⟩ := hv
    refine ⟨ad, cap, rfl, hm, fun h0 => ?_⟩
    obtain ⟨b, o, rfl, hlt, hcell⟩ := hc h0
    exact ⟨b, o, rfl, Nat.lt_of_lt_of_le hlt hb.size, fun i hi => by rw [hb.cell (by exact hlt)]; exact hcell i hi⟩)
  obtain ⟨ad, cap, rfl, _⟩ := hv
  obtain ⟨hs1, hs2, hs3⟩ := hs
  have HSH : Hid (∀ v W, Below w.heap.size w W → LIn W v lns → Calls Tryz.prog 43 #[v] W fun r w' => (∃ lv, r = .returned (.tuple #[lv, .slice none 0 0, .agg #[.int .i64 0, .int .i64 0]]) ∧ LRd w' lv ((plLines lns pl).map lnOf)) ∧ Below W.heap.size W w') := fun v W hb h => short_gen v lns pl W h (KL.below hX hb) hpl hln ho hk hts
  have HBD := Lib.hid hbd
  clear hG hbd hpl hX
  go_enter Tryz.func23, Tryz.ntmps23
  go_wp2_with fail
  refine (HLN.out _ (by go_grown)).mono ?_
  rintro e w1 ⟨⟨lv, ps, rfl, hps, hlo⟩, hb1⟩
  rw [hs1, hs2]
  rw [hs3] at hps
  have hlin := lin_of hlo
  rw [hps] at hlin
  obtain ⟨la, lc, hlv⟩ := row_shape hlo.row
  subst hlv
  have x0 : w1.heap[w.heap.size]? = some (.cells #[.slice none 0 0, .slice none 0 0, .slice none 0 0] 49 (0, 0)) := by
    rw [hb1.block _ (by go_size), old2 _ _ (by go_size)]
    exact new_at _ _ rfl
  have x1 : w1.heap[w.heap.size + 1]? = some (.cells #[.int .i64 0, .int .i64 0] 36 (0, 0)) := by
    rw [hb1.block _ (by go_size)]
    exact new_at _ _ (by go_size)
  have HB1 : Hid (Below w.heap.size w w1) := Below.trans (by go_grown) (hb1.mono (by go_size))
  have HSC := Lib.hid fun W (hb : Below w1.heap.size w1 W) => HSH.out (.slice la ps.length lc) W (HB1.out.trans (hb.mono HB1.out.size)) (by
    obtain ⟨ad', cap', e, hh⟩ := hlin
    refine ⟨ad', cap', e, fun h0 => ?_⟩
    obtain ⟨b, o, rfl, hlt, hc⟩ := hh h0
    refine ⟨b, o, rfl, Nat.lt_of_lt_of_le hlt hb.size, fun i hi => ?_⟩
    obtain ⟨tv, a1, a2, a3⟩ := hc i hi
    exact ⟨tv, by rw [hb.cell (by exact hlt)]; exact a1, by rw [hb.cell (by exact hlt)]; exact a2, a3.below hb (Nat.le_refl _)⟩)
  have X0 := Lib.hid x0
  have X1 := Lib.hid x1
  clear hb1 hlo hlin hps x0 x1 HLN HSH hs1 hs2 hs3
  go_wp2_with fail
  refine (HSC.out _ (oalloc _ _)).mono ?_
  rintro e w2 ⟨⟨sv, rfl, hlr⟩, hb2⟩
  obtain ⟨sa, sc, hsv, _⟩ := id hlr
  subst hsv
  obtain ⟨hB2, hz2, yr⟩ := box_keep hb2
  have HB2 := Lib.hid (HB1.out.trans (hB2.mono HB1.out.size))
  have X02 := Lib.hid ((hB2.block _ (blk_lt X0.out)).trans X0.out)
  have X12 := Lib.hid ((hB2.block _ (blk_lt X1.out)).trans X1.out)
  have HLR := Lib.hid hlr
  have YR := Lib.hid yr
  obtain ⟨⟨u0, u1⟩, f0, f1⟩ := var2_of yr
  clear hb2 hB2 yr hlr HSC X0 X1 HB1
  go_wp2_with fail
  have hsame : Below w2.heap.size w2 ((w2.setCell ⟨w1.heap.size, 0, none⟩ (.int .i64 0)).setCell ⟨w1.heap.size, 1, none⟩ (.int .i64 0)) := (same_set YR.out rfl).trans (same_set (same_blk YR.out rfl) rfl)
  have hlr3 := HLR.out.below hsame (Nat.le_refl _)
  simp only [List.length_map] at hlr3
  refine (HBD.out _ _ (HB2.out.trans (hsame.mono HB2.out.size)) hlr3).mono ?_
  rintro e w6 ⟨⟨ca, cl, cc, sa', sl, sc', qa, ql, qc, rfl, hob⟩, hb6⟩
  have hb7 : Below w2.heap.size w2 w6 := hsame.trans (hb6.mono hsame.size)
  have z0 := (hb7.block _ (blk_lt X02.out)).trans X02.out
  have z1 := (hb7.block _ (blk_lt X12.out)).trans X12.out
  have g0 : w6.cell? ⟨w.heap.size, 0, none⟩ = some (.slice none 0 0) := blk_cell z0 rfl
  have g1 : w6.cell? ⟨w.heap.size, 1, none⟩ = some (.slice none 0 0) := blk_cell z0 rfl
  have g2 : w6.cell? ⟨w.heap.size, 2, none⟩ = some (.slice none 0 0) := blk_cell z0 rfl
  have q0 : w6.frozen? ⟨w.heap.size, 0, none⟩ = false := blk_froz z0
  have q1 : w6.frozen? ⟨w.heap.size, 1, none⟩ = false := blk_froz z0
  have q2 : w6.frozen? ⟨w.heap.size, 2, none⟩ = false := blk_froz z0
  obtain ⟨⟨v0, v1⟩, t0, t1⟩ := var2_of z1
  have HOB := Lib.hid hob
  have HB6 := Lib.hid (HB2.out.trans (hb7.mono HB2.out.size))
  have Z0 := Lib.hid z0
  have Z1 := Lib.hid z1
  clear hob hb6 hb7 z0 z1 hsame hlr3 HBD HLR u0 u1 f0 f1
  go_wp2_with fail
  have n3 : ∀ (x y z : Option Addr) (a b c d e f : Nat) (j : Nat) (n : Int), (#[Value.slice x a b, .slice y c d, .slice z e f] : Array Value)[j]? ≠ some (.int .u8 n) := by
    intro x y z a b c d e f j n h
    rcases j with _ | _ | _ | j <;> simp at h
  have m3 : ∀ (x y z : Option Addr) (a b c d e f : Nat) (j : Nat) (n : ByteArray), (#[Value.slice x a b, .slice y c d, .slice z e f] : Array Value)[j]? ≠ some (.string n) := by
    intro x y z a b c d e f j n h
    rcases j with _ | _ | _ | j <;> simp at h
  have n2 : ∀ (a b : Int) (j : Nat) (n : Int), (#[Value.int .i64 a, .int .i64 b] : Array Value)[j]? ≠ some (.int .u8 n) := by
    intro a b j n h
    rcases j with _ | _ | j <;> simp at h
  have m2 : ∀ (a b : Int) (j : Nat) (n : ByteArray), (#[Value.int .i64 a, .int .i64 b] : Array Value)[j]? ≠ some (.string n) := by
    intro a b j n h
    rcases j with _ | _ | j <;> simp at h
  have o1 := HOB.out.set (i := 0) (v := .slice ca cl cc) Z0.out (m3 _ _ _ _ _ _ _ _ _) (n3 _ _ _ _ _ _ _ _ _)
  have z1 := blk_set (i := 0) (v := .slice ca cl cc) Z0.out
  have o2 := o1.set (i := 1) (v := .slice sa' sl sc') z1 (m3 _ _ _ _ _ _ _ _ _) (n3 _ _ _ _ _ _ _ _ _)
  have z2 := blk_set (i := 1) (v := .slice sa' sl sc') z1
  have o3 := o2.set (i := 2) (v := .slice qa ql qc) z2 (m3 _ _ _ _ _ _ _ _ _) (n3 _ _ _ _ _ _ _ _ _)
  have Z1b : (((w6.setCell ⟨w.heap.size, 0, none⟩ (.slice ca cl cc)).setCell ⟨w.heap.size, 1, none⟩ (.slice sa' sl sc')).setCell ⟨w.heap.size, 2, none⟩ (.slice qa ql qc)).heap[w.heap.size + 1]? = some (.cells #[.int .i64 0, .int .i64 0] 36 (0, 0)) := by
    rw [Below.heap_setCell _ _ _ _ (by show w.heap.size + 1 ≠ w.heap.size; omega), Below.heap_setCell _ _ _ _ (by show w.heap.size + 1 ≠ w.heap.size; omega), Below.heap_setCell _ _ _ _ (by show w.heap.size + 1 ≠ w.heap.size; omega)]
    exact Z1.out
  have o4 := o3.set (i := 0) (v := .int .i64 0) Z1b (m2 _ _) (n2 _ _)
  have o5 := o4.set (i := 1) (v := .int .i64 0) (blk_set (i := 0) (v := .int .i64 0) Z1b) (m2 _ _) (n2 _ _)
  exact bodyPost_ret (v := .tuple #[.agg #[.slice ca cl cc, .slice sa' sl sc', .slice qa ql qc], .agg #[.int .i64 0, .int .i64 0]]) (by simp [results, Tryz.results23, go_sem, g0, g1, g2, v0, v1]) rfl ⟨⟨ca, cl, cc, sa', sl, sc', qa, ql, qc, rfl, o5⟩, ((((HB6.out.setCell (Nat.le_refl _) _).setCell (Nat.le_refl _) _).setCell (Nat.le_refl _) _).setCell (Nat.le_succ _) _).setCell (Nat.le_succ _) _⟩

end Go.Proofs.YtgjmbjahgcndnaaGreatDoor

namespace Go.Proofs.YtgjmbjahgcndnaaGreatDoor
open Go.RowKit

theorem ent_far (args : Array Value) (w : World) : (callFunc 200 args).run Tryz.prog w = .ok (.enter 200 args) w := by kernel_rfl

theorem far1_any (gt : Nat) (tv : Value) (p q : Int) (w : World) (hL : Isa.Laid w) (hgt : w.heap[gt]? = some (.cells #[tv] 269 (0, 0))) (hT : Tells w tv q) (h0 : 0 ≤ p) (h1 : p ≤ 1000000) (h2 : -1000000000000 ≤ q) (h3 : q ≤ 1000000000000) :
    Calls Tryz.prog 200 #[.int .i64 p, .pointer (some ⟨gt, 0, none⟩)] w fun r w' => r = .returned (.bool (!(nearU p q))) ∧ Below w.heap.size w w' := by
  obtain ⟨f, caps, rfl, hent, hto⟩ := hT
  have HTO := Lib.hid hto
  have HNE := Lib.hid fun W (hb : Below w.heap.size w W) => near_any p q W (hL.below hb hL.sz) h0 h1 h2 h3
  have ct : w.cell? ⟨gt, 0, none⟩ = some (.func (.func f) #[] caps) := blk_cell hgt rfl
  have z1 := blk_lt hgt
  clear hL hgt hto
  go_enter Tryz.func200, Tryz.ntmps200
  go_wp2_with fail
  refine (HTO.out _ (Below.refl _ _)).mono ?_
  rintro e w1 ⟨rfl, hb1⟩
  have HB1 := Lib.hid hb1
  clear hb1 HTO ct
  go_wp2_with (go_at_call 201; refine (HNE.out _ HB1.out).mono ?_; rintro e w2 ⟨rfl, hb2⟩; have HB2 := Lib.hid (HB1.out.trans (hb2.mono HB1.out.size)); clear hb2)
  go_ret
  exact ⟨rfl, HB2.out⟩

end Go.Proofs.YtgjmbjahgcndnaaGreatDoor

namespace Go.Proofs.YtgjmbjahgcndnaaGreatDoor
open Go.RowKit

/-- Whether an item must be made long. -/
def mustU (u : Un) (ps : List Int) (k : Nat) (x : It) : Bool := decide (x.size < 6) && farU u ps (ps.getD k 0) x.gen
def long1 (u : Un) (ps : List Int) (k : Nat) (x : It) : It := if mustU u ps k x = true then { x with size := 6 } else x
theorem longU_cons (u : Un) (ps : List Int) (k : Nat) (x : It) (r : List It) : longU u ps k (x :: r) = (long1 u ps k x :: (longU u ps (k + 1) r).1, mustU u ps k x || (longU u ps (k + 1) r).2) := by
  rw [longU]
  unfold long1 mustU
  generalize farU u ps (ps.getD k 0) x.gen = b
  by_cases h : x.size < 6
  · cases b <;> simp [h]
  · cases b <;> simp [h]
theorem longU_snoc (u : Un) (ps : List Int) (x : It) : ∀ (l : List It) (k : Nat), longU u ps k (l ++ [x]) = ((longU u ps k l).1 ++ [long1 u ps (k + l.length) x], (longU u ps k l).2 || mustU u ps (k + l.length) x)
  | [], k => by
    rw [List.nil_append, longU_cons]
    simp [longU]
  | y :: l, k => by
    rw [List.cons_append, longU_cons, longU_snoc u ps x l (k + 1), longU_cons]
    simp only [List.length_cons, List.cons_append, Bool.or_assoc]
    rw [show k + 1 + l.length = k + (l.length + 1) by omega]
theorem longU_len (u : Un) (ps : List Int) : ∀ (l : List It) (k : Nat), (longU u ps k l).1.length = l.length
  | [], k => rfl
  | x :: l, k => by rw [longU_cons, List.length_cons, List.length_cons, longU_len u ps l]
/-- The items when the first ones are looked at. -/
def itsAt (u : Un) (ps : List Int) (its : List It) (k : Nat) : List It := (longU u ps 0 (its.take k)).1 ++ its.drop k
theorem itsAt_len (u : Un) (ps : List Int) (its : List It) (k : Nat) : (itsAt u ps its k).length = its.length := by
  unfold itsAt
  rw [List.length_append, longU_len, ← List.length_append, List.take_append_drop]
theorem itsAt_at (u : Un) (ps : List Int) (its : List It) (k : Nat) (h : k < its.length) : (itsAt u ps its k)[k]'(by rw [itsAt_len]; exact h) = its[k] := by
  unfold itsAt
  rw [List.getElem_append_right (by rw [longU_len]; simp; omega)]
  simp [longU_len, Nat.min_eq_left (Nat.le_of_lt h)]
theorem itsAt_succ (u : Un) (ps : List Int) (its : List It) (k : Nat) (h : k < its.length) : itsAt u ps its (k + 1) = (itsAt u ps its k).set k (long1 u ps k its[k]) := by
  have hl : (longU u ps 0 (its.take k)).1.length = k := by rw [longU_len]; simp; omega
  unfold itsAt
  rw [List.take_succ_eq_append_getElem h, longU_snoc]
  simp only [Nat.zero_add, List.length_take, Nat.min_eq_left (Nat.le_of_lt h)]
  rw [List.set_append_right _ _ (by omega), hl, Nat.sub_self, List.append_assoc]
  congr 1
  rw [List.drop_eq_getElem_cons h]
  rfl
theorem must_succ (u : Un) (ps : List Int) (its : List It) (k : Nat) (h : k < its.length) : (longU u ps 0 (its.take (k + 1))).2 = ((longU u ps 0 (its.take k)).2 || mustU u ps k its[k]) := by
  rw [List.take_succ_eq_append_getElem h, longU_snoc]
  simp [Nat.min_eq_left (Nat.le_of_lt h)]

/-- A cell of a row of one's own is changed. -/
theorem row_put {w : World} {base n size g cap j : Nat} {e : TypeId} {xs : List Value} (h : w.ownsRow base e size (.slice (some ⟨g, 0, none⟩) n cap) n xs) (x : Value) : (w.setCell ⟨g, j, none⟩ x).ownsRow base e size (.slice (some ⟨g, 0, none⟩) n cap) n (xs.set j x) := by
  refine ⟨by rw [List.length_set]; exact h.1, .inr ?_⟩
  rcases h.2 with ⟨hv, _⟩ | ⟨g', cap', cur, hv, hg, hgg, h1, h2, h3, h4⟩
  · cases hv
  · injection hv with e1 _ e3
    injection e1 with e1
    injection e1 with e1
    subst e1 e3
    refine ⟨g, cap, cur.setIfInBounds j x, rfl, hg, blk_set hgg, h1, h2, by simpa using h3, ?_⟩
    rw [Array.toList_setIfInBounds, List.take_set, h4]

theorem itC_set : ∀ (l : List (It × Value × Value)) (k : Nat) (h : k < l.length) (s : Int), itC (l.set k ({ l[k].1 with size := s }, l[k].2)) = (itC l).set (k * 6 + 1) (.int .i64 s)
  | [], k, h, s => by simp at h
  | t :: r, 0, h, s => by simp [itC]
  | t :: r, k + 1, h, s => by
    have ih := itC_set r k (by simpa using h) s
    have e : ∀ (p : It × Value × Value) (r : List (It × Value × Value)), itC (p :: r) = [.int .i64 p.1.line, .int .i64 p.1.size, .int .i64 p.1.upTo, .int .i64 p.1.align, p.2.1, p.2.2] ++ itC r := fun p r => by simp [itC]
    simp only [List.set_cons_succ, List.getElem_cons_succ]
    rw [e, e, ih, List.set_append_right _ _ (by simp; omega)]
    congr 2
    simp
    omega
theorem itC_len : ∀ l : List (It × Value × Value), (itC l).length = l.length * 6
  | [] => rfl
  | t :: r => by
    have := itC_len r
    simp only [itC, List.flatMap_cons, List.length_append, List.length_cons, List.length_nil] at this ⊢
    omega

end Go.Proofs.YtgjmbjahgcndnaaGreatDoor

namespace Go.Proofs.YtgjmbjahgcndnaaGreatDoor
open Go.RowKit

theorem S0.grown {x : SU} {w W : World} {gi : Nat} {cur : Array Value} (h : S0 x w) (hg : w.grownBy W (some gi)) (hgi : w.heap[gi]? = some (.cells cur 198 (0, 0))) (hlt : x.gu < gi) : S0 x W := by
  refine ⟨?_, h.lb.grown hg ?_, h.laid.below (B := gi) ⟨hg.os, hg.tape, hg.output, hg.size, fun i hi => hg.block i (by have := blk_lt hgi; omega) (by intro e; injection e with e; omega)⟩ (by have := h.hi; omega), h.hi, h.nn, h.bd, h.lab⟩
  · obtain ⟨cs, k1, k2⟩ := h.pl
    refine ⟨cs, ?_, k2⟩
    rw [hg.block _ (blk_lt k1) (by intro e; injection e with e; subst e; rw [hgi] at k1; injection k1 with k1; injection k1 with _ e2; exact absurd e2 (by decide))]
    exact k1
  · intro e
    injection e with e
    obtain ⟨D, ⟨es, ck, hb, F⟩, hd⟩ := h.lb
    subst e
    rw [hgi] at hb
    cases hb

theorem Tells.go {w W : World} {tv : Value} {p : Int} (h : Tells w tv p) (hb : Below w.heap.size w W) : Tells W tv p := by
  obtain ⟨f, caps, rfl, hent, h⟩ := h
  exact ⟨f, caps, rfl, hent, fun W' hb' => h W' (hb.trans (hb'.mono hb.size))⟩

/-- What is asked of an item: where it leads is told. -/
def FarOk (x : SU) (w : World) (u : Un) (i : It) : Prop := match i.gen with
  | .lead op _ _ _ q => Isa.infoShape op = 4 → (i.size = 2 ∨ i.size = 6) ∧ GoalOk x w q ∧ ∃ p, goalU u x.ps q = .ok p
  | _ => True

set_option maxHeartbeats 4000000 in
set_option maxRecDepth 100000 in
theorem lengthen_any (x : SU) (rv : Value) (B : Nat) (its : List It) (l : List (It × Value × Value)) (w0 w : World) (hup : ∀ x' fa by', GenR w0 x.gu x' fa by' → GenR w x.gu x' fa by') (hs : S0 x w) (hlt : x.gu < B) (hu : w.heap[x.gu]? = some (.cells (x.C rv) 141 (0, 0))) (hrow : w.ownsRow B 198 6 x.iv its.length (itC l)) (hl : l.map (·.1) = its) (hg : ∀ p, p ∈ l → GenR w0 x.gu p.1 p.2.1 p.2.2) (hn : its.length = x.n) (hok : ∀ i, i ∈ its → FarOk x w ⟨x.labs, its, x.firsts⟩ i) :
    Calls Tryz.prog 98 #[.pointer (some ⟨x.gu, 0, none⟩)] w fun r w' => r = .returned (.bool (longU ⟨x.labs, its, x.firsts⟩ x.ps 0 its).2) ∧ (∃ l', l'.map (·.1) = (longU ⟨x.labs, its, x.firsts⟩ x.ps 0 its).1 ∧ w'.ownsRow B 198 6 x.iv its.length (itC l') ∧ ∀ p, p ∈ l' → GenR w0 x.gu p.1 p.2.1 p.2.2) ∧ w.grownBy w' x.iv.ownBlock := by
  obtain ⟨ia, ic, hiv⟩ := row_shape hrow
  have c4 : w.cell? ⟨x.gu, 4, none⟩ = some x.iv := blk_cell hu rfl
  have hgw := blk_lt hu
  rw [hiv] at c4
  have HS := Lib.hid hs
  have HUP := Lib.hid hup
  have HU := Lib.hid hu
  have HOK := Lib.hid hok
  have HI : Hid (∃ l', l'.map (·.1) = itsAt ⟨x.labs, its, x.firsts⟩ x.ps its 0 ∧ w.ownsRow B 198 6 x.iv its.length (itC l') ∧ ∀ p, p ∈ l' → GenR w0 x.gu p.1 p.2.1 p.2.2) := ⟨l, by simpa [itsAt, longU] using hl, hrow, hg⟩
  have HN := Lib.hid hn
  have HR0 : Hid (∀ g, x.iv.ownBlock = some g → ∃ cur, w.heap[g]? = some (.cells cur 198 (0, 0)) ∧ B ≤ g) := fun g hg => by
    rcases hrow.2 with ⟨hv, _⟩ | ⟨g', cap, cur, hv, h1, h2, _⟩
    · rw [hv] at hg; simp [Value.ownBlock] at hg
    · rw [hv] at hg; simp only [Value.ownBlock, Option.some.injEq] at hg; subst hg; exact ⟨cur, h2, h1⟩
  have hln : its.length ≤ 100000 := by have := hs.nn; omega
  clear hs hu hrow hl hg hok hn hup
  have hnn : ∀ W, (binOp .neq 74 .nilFunc .nilFunc).run Tryz.prog W = .ok (.bool false) W := fun W => by kernel_rfl
  have hnf : ∀ gt W, (binOp .neq 74 (.func (.func 200) #[] #[.pointer (some ⟨gt, 0, none⟩)]) .nilFunc).run Tryz.prog W = .ok (.bool true) W := fun gt W => by kernel_rfl
  have hent := ent_far
  go_enter Tryz.func98, Tryz.ntmps98
  go_wp2_with fail
  go_loopw [3, 11] (fun bv iv wr => ∃ k : Nat, k ≤ its.length ∧ iv = .int .i64 k ∧ bv = .bool (longU ⟨x.labs, its, x.firsts⟩ x.ps 0 (its.take k)).2 ∧ Hid (∃ l', l'.map (·.1) = itsAt ⟨x.labs, its, x.firsts⟩ x.ps its k ∧ wr.ownsRow B 198 6 x.iv its.length (itC l') ∧ ∀ p, p ∈ l' → GenR w0 x.gu p.1 p.2.1 p.2.2) ∧ Hid (w.grownBy wr x.iv.ownBlock)) (fun _ iv _ => its.length - (intOf iv).toNat)
  case atStart => exact ⟨0, Nat.zero_le _, rfl, by simp [longU], HI, World.grownBy.refl _ _⟩
  case round =>
    obtain ⟨k, hk, rfl, rfl, HL, HG⟩ := hrel
    by_cases hkl : k < its.length
    · have hk' : (k : Int) < its.length := by omega
      obtain ⟨l', hl1, hl2, hl3⟩ := HL.out
      have hll : l'.length = its.length := by have := congrArg List.length hl1; simpa [itsAt_len] using this
      have hl2' := hl2
      rw [hiv] at hl2'
      obtain ⟨g, cur, rfl, hgc, hcells⟩ := item_cells hl2' hll hkl
      obtain ⟨hgl, i0, i1, i2, i3, i4, i5⟩ := hcells wr rfl
      have hlk : l'[k].1 = its[k] := by
        have h1 := itsAt_at ⟨x.labs, its, x.firsts⟩ x.ps its k hkl
        rw [← h1]
        simp only [← hl1, List.getElem_map]
      have hGk0 := hl3 l'[k] (List.getElem_mem _)
      have hGk := HUP.out _ _ _ hGk0
      have HMS := Lib.hid (must_succ ⟨x.labs, its, x.firsts⟩ x.ps its k hkl)
      have HIS := Lib.hid (itsAt_succ ⟨x.labs, its, x.firsts⟩ x.ps its k hkl)
      generalize hb0 : (longU ⟨x.labs, its, x.firsts⟩ x.ps 0 (its.take k)).2 = b0 at *
      have HNF : Hid (farU ⟨x.labs, its, x.firsts⟩ x.ps (x.ps.getD k 0) its[k].gen = false ∧ l'[k].2.1 = .nilFunc ∨ ∃ gt tv op n m imm q p, its[k].gen = .lead op n m imm q ∧ (its[k].size = 2 ∨ its[k].size = 6) ∧ l'[k].2.1 = .func (.func 200) #[] #[.pointer (some ⟨gt, 0, none⟩)] ∧ w.heap[gt]? = some (.cells #[tv] 269 (0, 0)) ∧ GoalR w x.gu tv q ∧ GoalOk x w q ∧ goalU ⟨x.labs, its, x.firsts⟩ x.ps q = .ok p ∧ farU ⟨x.labs, its, x.firsts⟩ x.ps (x.ps.getD k 0) its[k].gen = !(nearU (x.ps.getD k 0) p)) := by
        have hfk := HOK.out its[k] (List.getElem_mem _)
        have hG2 := hGk
        rw [hlk] at hG2
        unfold GenR at hG2
        unfold FarOk at hfk
        cases hx : its[k].gen with
        | fill => rw [hx] at hG2; exact .inl ⟨rfl, hG2.1⟩
        | num nm n => rw [hx] at hG2; exact .inl ⟨rfl, hG2.1⟩
        | plain op n m imm => rw [hx] at hG2; exact .inl ⟨rfl, hG2.1⟩
        | lead op n m imm q =>
          rw [hx] at hG2 hfk
          obtain ⟨gt, gi, tv, h0, e, a, b, c⟩ := hG2
          by_cases h4 : Isa.infoShape op = 4
          · rw [if_pos h4] at h0
            obtain ⟨k0, k1, p, k2⟩ := hfk h4
            exact .inr ⟨gt, tv, op, n, m, imm, q, p, rfl, k0, h0, a, c, k1, k2, by simp only [farU, h4, if_true, k2]⟩
          · rw [if_neg h4] at h0
            exact .inl ⟨by simp only [farU, h4, if_false], h0⟩
      obtain ⟨_, fb1, fb2, fb3, hf2⟩ := hGk.shape
      rw [hlk] at i0 i1 i2 i3
      rw [hf2] at i5
      have HL1 := Lib.hid hl1
      have HL2 := Lib.hid hl2
      have HL3 := Lib.hid hl3
      have HGC := Lib.hid hgc
      rcases HNF.out with ⟨hff, hf1⟩ | ⟨gt, tv, op, nn, mm, imm, q, p, hgen, hsz, hf1, hgt, hgr, hgo, hpp, hff⟩
      · rw [hf1] at i4
        have hmf : mustU ⟨x.labs, its, x.firsts⟩ x.ps k its[k] = false := by
          unfold mustU
          rw [hff, Bool.and_false]
        have HMF := Lib.hid hmf
        have HLG : Hid (long1 ⟨x.labs, its, x.firsts⟩ x.ps k its[k] = its[k]) := by
          unfold Hid long1
          rw [hmf]
          rfl
        generalize its[k].line = li at *
        generalize its[k].size = sz at *
        generalize its[k].upTo = up at *
        generalize its[k].align = al at *
        clear hcells hf1 hf2 hgc hlk hGk hGk0 HUP hl1 hl2 hl2' hl3 HL HOK HS HU HI hmf HNF hff
        go_wp2_with fail
        go_region
        all_goals
          go_wp2
          refine ⟨⟨k + 1, by omega, by go_num, by rw [HMS.out, HMF.out, Bool.or_false], ⟨l', ?_, Sc.owns_below HL2.out (oalloc _ _).drew (Nat.le_refl _), HL3.out⟩, gtrans HG.out (gbelow _ (oalloc _ _).drew (Nat.le_refl _))⟩, by simp [intOf]; omega⟩
          rw [HIS.out, HLG.out, HL1.out]
          have := itsAt_at ⟨x.labs, its, x.firsts⟩ x.ps its k hkl
          rw [← this, List.set_getElem_self]
      · rw [hf1] at i4
        have hub : wr.heap[x.gu]? = some (.cells (x.C rv) 141 (0, 0)) := (HG.out.block _ hgw (by rw [hiv]; simp only [Value.ownBlock]; intro e; injection e with e; have := (HL2.out.lt g (by rw [hiv]; rfl)).1; omega)).trans HU.out
        have d4 : wr.cell? ⟨x.gu, 4, none⟩ = some (.slice (some ⟨g, 0, none⟩) its.length ic) := by rw [← hiv]; exact blk_cell hub rfl
        have d6 : wr.cell? ⟨x.gu, 6, none⟩ = some (.slice (some ⟨x.gp, 0, none⟩) (x.n + 1) (x.n + 1)) := blk_cell hub rfl
        have hgu := blk_lt hub
        have hkn : k < x.n + 1 := by have := HN.out; omega
        obtain ⟨cur0, hg0, hBg⟩ := HR0.out g (by rw [hiv]; rfl)
        have hgr0 : w.grownBy wr (some g) := by have := HG.out; rw [hiv] at this; exact this
        have hS0 : S0 x wr := HS.out.grown hgr0 hg0 (by omega)
        have kp : ∀ {q : Nat} {c : Array Value} {t : TypeId}, w.heap[q]? = some (.cells c t (0, 0)) → t ≠ 198 → wr.heap[q]? = some (.cells c t (0, 0)) := fun {q c t} hq ht => by
          rw [hgr0.block q (blk_lt hq) (by intro e; injection e with e; subst e; rw [hg0] at hq; injection hq with hq; injection hq with _ e2; exact ht e2.symm)]
          exact hq
        have hgo' : GoalOk x wr q := by
          cases q with
          | val nm add => exact hgo
          | slot gq i =>
            obtain ⟨o1, vv, mv, o2⟩ := hgo
            exact ⟨o1, vv, mv, kp o2 (by decide)⟩
        have hTW := goal_any x rv tv q its p wr hS0 hub (hgr.stays fun {q c t} a ht => kp a (by rintro rfl; exact absurd ht (by decide))) hgo' hpp
        have hbd := goal_bd x wr its q p hS0 hgo' hpp
        have hb1 := hS0.bd k
        have HFAR : Hid (∀ W, Below wr.heap.size wr W → Calls Tryz.prog 200 #[.int .i64 (x.ps.getD k 0), .pointer (some ⟨gt, 0, none⟩)] W fun r w' => r = .returned (.bool (!(nearU (x.ps.getD k 0) p))) ∧ Below W.heap.size W w') := fun W hb => far1_any gt tv _ p W (hS0.laid.below hb hS0.laid.sz) (by rw [hb.block _ (blk_lt (kp hgt (by decide)))]; exact kp hgt (by decide)) (hTW.go hb) hb1.1 hb1.2 (by omega) (by omega)
        have hpl : wr.cell? ⟨x.gp, k, none⟩ = some (.int .i64 (x.ps.getD k 0)) := by
          obtain ⟨cs, k1, _, _, k4⟩ := hS0.pl
          exact blk_cell k1 (k4 k hkn)
        have hgpl : x.gp < wr.heap.size := by obtain ⟨cs, k1, _⟩ := hS0.pl; exact blk_lt k1
        have hfz : wr.frozen? ⟨g, k * 6 + 1, none⟩ = false := blk_froz HGC.out
        have hne : x.gu ≠ g := by omega
        have hngp : x.gp ≠ g := by
          rintro rfl
          obtain ⟨cs, k1, _⟩ := hS0.pl
          rw [HGC.out] at k1
          injection k1 with k1
          injection k1 with _ e2
          exact absurd e2 (by decide)
        have HGEN := Lib.hid hgen
        have HMU : Hid (mustU ⟨x.labs, its, x.firsts⟩ x.ps k its[k] = (decide (its[k].size < 6) && !(nearU (x.ps.getD k 0) p))) := by
          unfold Hid mustU
          rw [hff]
        have HLK := Lib.hid hlk
        have HGK := Lib.hid hGk0
        generalize x.ps.getD k 0 = pk at *
        clear hTW hbd hS0 kp hgo' hub hcells hf1 hf2 hgc hl1 hl2 hl2' hl3 HL HOK HS HU HI HNF hff hgen hgt hgr hgo hpp hgr0 hGk hGk0 HUP
        rcases hsz with hsz | hsz
        · generalize hfar : (!(nearU pk p)) = fr at *
          have HMF : Hid (mustU ⟨x.labs, its, x.firsts⟩ x.ps k its[k] = fr) := by
            unfold Hid
            rw [HMU.out, hsz]
            rfl
          have HNO : Hid (∀ w4, Below wr.heap.size wr w4 → fr = false → (∃ l'', l''.map (·.1) = itsAt ⟨x.labs, its, x.firsts⟩ x.ps its (k + 1) ∧ w4.ownsRow B 198 6 x.iv its.length (itC l'') ∧ ∀ p, p ∈ l'' → GenR w0 x.gu p.1 p.2.1 p.2.2) ∧ w.grownBy w4 x.iv.ownBlock) := fun w4 hb hfr => by
            refine ⟨⟨l', ?_, Sc.owns_below HL2.out hb (Nat.le_refl _), HL3.out⟩, gtrans HG.out (gbelow _ hb (Nat.le_refl _))⟩
            have hm := HMF.out
            rw [hfr] at hm
            rw [HIS.out, HL1.out, long1, hm]
            have := itsAt_at ⟨x.labs, its, x.firsts⟩ x.ps its k hkl
            simp only [Bool.false_eq_true, if_false]
            rw [← this, List.set_getElem_self]
          have HYE : Hid (∀ w4, Below wr.heap.size wr w4 → fr = true → (∃ l'', l''.map (·.1) = itsAt ⟨x.labs, its, x.firsts⟩ x.ps its (k + 1) ∧ (w4.setCell ⟨g, k * 6 + 1, none⟩ (.int .i64 6)).ownsRow B 198 6 x.iv its.length (itC l'') ∧ ∀ p, p ∈ l'' → GenR w0 x.gu p.1 p.2.1 p.2.2) ∧ w.grownBy (w4.setCell ⟨g, k * 6 + 1, none⟩ (.int .i64 6)) x.iv.ownBlock) := fun w4 hb hfr => by
            have hm := HMF.out
            rw [hfr] at hm
            have hkl2 : k < l'.length := by omega
            refine ⟨⟨l'.set k ({ l'[k].1 with size := 6 }, l'[k].2), ?_, ?_, ?_⟩, gtrans (gtrans HG.out (gbelow _ hb (Nat.le_refl _))) (by rw [hiv]; exact gset _ _ _ _)⟩
            · rw [List.map_set, HL1.out, HIS.out, long1, hm]
              simp only [if_true, HLK.out]
            · rw [itC_set l' k hkl2 6, hiv]
              have hr4 := Sc.owns_below HL2.out hb (Nat.le_refl _)
              rw [hiv] at hr4
              exact row_put hr4 _
            · intro p hp
              rcases List.mem_or_eq_of_mem_set hp with hp | rfl
              · exact HL3.out p hp
              · have hge : l'[k].1.gen = .lead op nn mm imm q := by rw [HLK.out]; exact HGEN.out
                have := HGK.out
                unfold GenR at this ⊢
                rw [hge] at this
                simp only [hge]
                exact this
          clear HMU hlk hfar
          rw [hsz] at i1
          generalize its[k].line = li at *
          generalize its[k].upTo = up at *
          generalize its[k].align = al at *
          go_wp2_with fail
          have hb3 : Below wr.heap.size wr (wr.alloc (.cells #[.int .i64 li, .int .i64 2, .int .i64 up, .int .i64 al, .func (.func 200) #[] #[.pointer (some ⟨gt, 0, none⟩)], .func fb1 fb2 fb3] 198)) := oalloc _ _
          have x3 : (wr.alloc (.cells #[.int .i64 li, .int .i64 2, .int .i64 up, .int .i64 al, .func (.func 200) #[] #[.pointer (some ⟨gt, 0, none⟩)], .func fb1 fb2 fb3] 198)).heap[wr.heap.size]? = some (.cells #[.int .i64 li, .int .i64 2, .int .i64 up, .int .i64 al, .func (.func 200) #[] #[.pointer (some ⟨gt, 0, none⟩)], .func fb1 fb2 fb3] 198 (0, 0)) := new_at _ _ rfl
          generalize wr.alloc (.cells #[.int .i64 li, .int .i64 2, .int .i64 up, .int .i64 al, .func (.func 200) #[] #[.pointer (some ⟨gt, 0, none⟩)], .func fb1 fb2 fb3] 198) = W3 at *
          have y1 : W3.cell? ⟨wr.heap.size, 1, none⟩ = some (.int .i64 2) := blk_cell x3 rfl
          have y4 : W3.cell? ⟨wr.heap.size, 4, none⟩ = some (.func (.func 200) #[] #[.pointer (some ⟨gt, 0, none⟩)]) := blk_cell x3 rfl
          have hz3 := blk_lt x3
          have e6 := (hb3.cell (p := ⟨x.gu, 6, none⟩) hgu).trans d6
          have ep := (hb3.cell (p := ⟨x.gp, k, none⟩) hgpl).trans hpl
          have hgu3 : x.gu < W3.heap.size := by omega
          have hgp3 : x.gp < W3.heap.size := by omega
          have HB3 := Lib.hid hb3
          have HF3 := Lib.hid fun W (hb : Below W3.heap.size W3 W) => HFAR.out W (HB3.out.trans (hb.mono HB3.out.size))
          have D4 := Lib.hid d4
          have I1 := Lib.hid i1
          clear hb3 x3 i0 i1 i2 i3 i4 i5 d4 d6 hpl HFAR c4 hfz
          generalize wr.heap.size = gx at *
          go_region_with (refine (HF3.out _ (Below.refl _ _).drew).mono ?_; rintro e w4 ⟨rfl, hb4⟩; have hb34 : Below gx wr w4 := HB3.out.trans (((Below.refl W3.heap.size W3).drew.trans hb4).mono (by omega)); have e4 := (hb34.cell (p := ⟨x.gu, 4, none⟩) hgu).trans D4.out; have s1 := (hb34.cell (p := ⟨g, k * 6 + 1, none⟩) hgl).trans I1.out; have t4 := (hb34.block g hgl).trans HGC.out; have f1 : w4.frozen? ⟨g, k * 6 + 1, none⟩ = false := blk_froz t4; have hgw4 := blk_lt t4; have hgu4 : x.gu < w4.heap.size := (by have := hb4.size; simp at this; omega); have HB34 := Lib.hid hb34; clear hb4 hb34 t4)
          all_goals
            cases fr
            · obtain ⟨k1, k2⟩ := HNO.out w4 HB34.out rfl
              have K1 := Lib.hid k1
              have K2 := Lib.hid k2
              clear k1 k2
              go_wp2
              exact ⟨⟨k + 1, by omega, by go_num, by rw [HMS.out, HMF.out, Bool.or_false], K1, K2⟩, by simp [intOf]; omega⟩
            · obtain ⟨k1, k2⟩ := HYE.out w4 HB34.out rfl
              have K1 := Lib.hid k1
              have K2 := Lib.hid k2
              clear k1 k2
              go_wp2
              exact ⟨⟨k + 1, by omega, by go_num, by rw [HMS.out, HMF.out, Bool.or_true], K1, K2⟩, by simp [intOf]; omega⟩
        · have hmf : mustU ⟨x.labs, its, x.firsts⟩ x.ps k its[k] = false := by
            rw [HMU.out, hsz]
            rfl
          have HMF := Lib.hid hmf
          have HLG : Hid (long1 ⟨x.labs, its, x.firsts⟩ x.ps k its[k] = its[k]) := by
            unfold Hid long1
            rw [hmf]
            rfl
          clear hmf HMU HLK hlk
          rw [hsz] at i1
          generalize its[k].line = li at *
          generalize its[k].upTo = up at *
          generalize its[k].align = al at *
          go_wp2_with fail
          go_region
          all_goals
            go_wp2
            refine ⟨⟨k + 1, by omega, by go_num, by rw [HMS.out, HMF.out, Bool.or_false], ⟨l', ?_, Sc.owns_below HL2.out (oalloc _ _).drew (Nat.le_refl _), HL3.out⟩, gtrans HG.out (gbelow _ (oalloc _ _).drew (Nat.le_refl _))⟩, by simp [intOf]; omega⟩
            rw [HIS.out, HLG.out, HL1.out]
            have := itsAt_at ⟨x.labs, its, x.firsts⟩ x.ps its k hkl
            rw [← this, List.set_getElem_self]
    · obtain rfl : k = its.length := by omega
      have hk' : ¬ ((its.length : Nat) : Int) < its.length := by omega
      have HL2 := HL
      clear HL
      rw [List.take_length]
      go_wp2
      go_ret
      obtain ⟨l', q1, q2, q3⟩ := HL2.out
      refine ⟨rfl, ⟨l', ?_, by rw [← hiv]; exact q2, fun a b c h => q3 (a, b, c) h⟩, by rw [← hiv]; exact HG.out⟩
      rw [q1, itsAt, List.take_length, List.drop_length, List.append_nil]

end Go.Proofs.YtgjmbjahgcndnaaGreatDoor

namespace Go.Proofs.YtgjmbjahgcndnaaGreatDoor
open Go.RowKit

theorem longB_parts {op p q : Int} {b : List UInt8} (h : longB op p q = .ok b) : ∃ d b1 b2 b3, ledU 19 (p + 2) q = .ok d ∧ encU (if op = 17 then 18 else 17) 0 0 1 = .ok b1 ∧ encU 19 0 0 d = .ok b2 ∧ encU 1 0 0 0 = .ok b3 ∧ b = b1 ++ (b2 ++ b3) := by
  unfold longB at h
  split at h
  · exact absurd h (by simp)
  · next d hd =>
    split at h
    · exact absurd h (by simp)
    · next b1 h1 =>
      split at h
      · exact absurd h (by simp)
      · next b2 h2 =>
        split at h
        · exact absurd h (by simp)
        · next b3 h3 =>
          injection h with h
          exact ⟨d, b1, b2, b3, hd, h1, h2, h3, h.symm⟩

set_option maxHeartbeats 4000000 in
theorem longBranch_any (op p q : Int) (b : List UInt8) (w : World) (hL : Isa.Laid w) (h0 : 0 ≤ p) (h1 : p ≤ 900000) (h2 : -1000000000000 ≤ q) (h3 : q ≤ 1000000000000) (hop : op = 17 ∨ op = 18) (hok : longB op p q = .ok b) :
    Calls Tryz.prog 197 #[.int .i64 op, .int .i64 p, .int .i64 q] w fun r w' => (∃ ca cl cc, r = .returned (.tuple #[.slice ca cl cc, .int .i64 0]) ∧ OBytes w' (.slice ca cl cc) b) ∧ Below w.heap.size w w' := by
  obtain ⟨d, b1, b2, b3, hd, e1, e2, e3, rfl⟩ := longB_parts hok
  have HLE := Lib.hid fun W (hb : Below w.heap.size w W) => led_any 19 0 0 0 (p + 2) q d W (hL.below hb hL.sz) (by omega) (by omega) h2 h3 hd
  obtain ⟨o1, rfl⟩ := In.okB (k := ⟨if op = 17 then 18 else 17, 0, 0, 1⟩) e1
  obtain ⟨o2, rfl⟩ := In.okB (k := ⟨19, 0, 0, d⟩) e2
  obtain ⟨o3, rfl⟩ := In.okB (k := ⟨1, 0, 0, 0⟩) e3
  have HEN := Lib.hid fun g W (hb : Below w.heap.size w W) (hg : W.heap[g]? = some (.cells #[.int .i64 (if op = 17 then 18 else 17), .int .i64 0, .int .i64 0, .int .i64 1, .int .i64 19, .int .i64 0, .int .i64 0, .int .i64 d, .int .i64 1, .int .i64 0, .int .i64 0, .int .i64 0] 71 (0, 0))) => encoded_any [⟨if op = 17 then 18 else 17, 0, 0, 1⟩, ⟨19, 0, 0, d⟩, ⟨1, 0, 0, 0⟩] (some ⟨g, 0, none⟩) 3 W (hL.below hb hL.sz) (fun _ => ⟨g, 0, rfl, blk_lt hg, fun i hi => by
    have hi3 : i = 0 ∨ i = 1 ∨ i = 2 := by simp at hi; omega
    rcases hi3 with rfl | rfl | rfl
    · exact ⟨blk_cell hg rfl, blk_cell hg rfl, blk_cell hg rfl, blk_cell hg rfl⟩
    · exact ⟨blk_cell hg rfl, blk_cell hg rfl, blk_cell hg rfl, blk_cell hg rfl⟩
    · exact ⟨blk_cell hg rfl, blk_cell hg rfl, blk_cell hg rfl, blk_cell hg rfl⟩⟩) (by intro k hk; simp at hk; rcases hk with rfl | rfl | rfl <;> assumption) (by simp)
  clear hL hok hd e1 e2 e3 o1 o2 o3
  have hp2 : p + 2 ≤ 900002 := by omega
  rcases hop with rfl | rfl
  all_goals
    simp only [List.length_cons, List.length_nil, Nat.zero_add, Nat.reduceAdd, if_true, show ((18 : Int) = 17) = False from by simp, if_false] at HEN ⊢
    go_enter Tryz.func197, Tryz.ntmps197
    go_wp2_with fail
    refine (HLE.out _ (Below.refl _ _)).mono ?_
    rintro e w1 ⟨rfl, hb1⟩
    have HB1 := Lib.hid hb1
    clear hb1 HLE
    go_wp2_with fail
    have hz1 := HB1.out.size
    refine (HEN.out _ _ ((HB1.out.alloc hz1 _).alloc (by simp; omega) _) (new_at _ _ (by simp))).mono ?_
    rintro e w2 ⟨⟨cv, rfl, hout⟩, hb2⟩
    obtain ⟨ca, cc, hcv⟩ := row_shape hout.1
    subst hcv
    have HOB := Lib.hid (Out.bytes hout (by simp [encsB, half]; decide))
    have HB2 : Hid (Below w.heap.size w w2) := ((HB1.out.alloc hz1 _).alloc (by simp; omega) _).trans (hb2.mono (by simp; omega))
    clear hout hb2 HEN
    go_wp2
    go_ret2
    refine ⟨⟨_, _, _, rfl, ?_⟩, HB2.out⟩
    simpa [encsB] using HOB.out

theorem lead1_six (gt gi : Nat) (k : In) (tv : Value) (p q : Int) (b : List UInt8) (w : World) (hL : Isa.Laid w) (hgt : w.heap[gt]? = some (.cells #[tv] 269 (0, 0))) (hgi : w.heap[gi]? = some (.cells k.C 71 (0, 0))) (hT : Tells w tv q) (h0 : 0 ≤ p) (h1 : p ≤ 900000) (h2 : -1000000000000 ≤ q) (h3 : q ≤ 1000000000000) (hop : k.op = 17 ∨ k.op = 18) (hok : longB k.op p q = .ok b) :
    Calls Tryz.prog 196 #[.int .i64 p, .int .i64 6, .pointer (some ⟨gt, 0, none⟩), .pointer (some ⟨gi, 0, none⟩)] w fun r w' => (∃ ca cl cc, r = .returned (.tuple #[.slice ca cl cc, .int .i64 0]) ∧ OBytes w' (.slice ca cl cc) b) ∧ Below w.heap.size w w' := by
  obtain ⟨f, caps, rfl, hent, hto⟩ := hT
  have HTO := Lib.hid hto
  have HLB := Lib.hid fun W (hb : Below w.heap.size w W) => longBranch_any k.op p q b W (hL.below hb hL.sz) h0 h1 h2 h3 hop hok
  obtain ⟨op, n, m, imm⟩ := k
  have ct : w.cell? ⟨gt, 0, none⟩ = some (.func (.func f) #[] caps) := blk_cell hgt rfl
  have c0 : w.cell? ⟨gi, 0, none⟩ = some (.int .i64 op) := blk_cell hgi rfl
  have z1 := blk_lt hgt
  have z2 := blk_lt hgi
  clear hL hgt hgi hok hto
  go_enter Tryz.func196, Tryz.ntmps196
  go_wp2_with fail
  refine (HTO.out _ (Below.refl _ _)).mono ?_
  rintro e w1 ⟨rfl, hb1⟩
  rw [← hb1.cell (by exact z2)] at c0
  have z3 : gi < w1.heap.size := Nat.lt_of_lt_of_le z2 hb1.size
  have HB1 := Lib.hid hb1
  clear hb1 HTO ct
  go_wp2_with fail
  refine (HLB.out _ HB1.out).mono ?_
  rintro e w2 ⟨⟨ca, cl, cc, rfl, hob⟩, hb2⟩
  have HOB := Lib.hid hob
  have HB2 := Lib.hid (HB1.out.trans (hb2.mono HB1.out.size))
  clear hob hb2 HLB c0
  go_wp2
  go_ret2
  exact ⟨⟨ca, cl, cc, rfl, HOB.out⟩, HB2.out⟩

/-- The bytes of a branch that was made long. -/
theorem bytes_six (x : SU) (w : World) (its : List It) (i : It) (op n m imm : Int) (q : Goal) (hx : i.gen = .lead op n m imm q) (hop : op = 17 ∨ op = 18) (fa by' : Value) (p : Int) (rs rs' : List Re) (b : List UInt8) (hg : GenR w x.gu i fa by') (s2 : GoalOk x w q) (h0 : 0 ≤ p) (h1 : p ≤ 900000) (hok : bytesU ⟨x.labs, its, x.firsts⟩ x.ps p 6 rs i = .ok (b, rs')) :
    ∃ f caps, by' = .func (.func f) #[] caps ∧ (∀ args w, (callFunc f args).run Tryz.prog w = .ok (.enter f args) w) ∧ ∀ W rv, WS x w W rv rs → Calls Tryz.prog f (#[.int .i64 p, .int .i64 6] ++ caps) W fun r W' => ∃ ca cl cc rv', r = .returned (.tuple #[.slice ca cl cc, .int .i64 0]) ∧ OBytes W' (.slice ca cl cc) b ∧ WS x w W' rv' rs' ∧ Ch x.gu rv.ownBlock W W' := by
  unfold GenR at hg
  unfold bytesU at hok
  rw [hx] at hg hok
  simp only at hg hok
  obtain ⟨gt, gi, tv, _, rfl, k1, k2, k3⟩ := hg
  refine ⟨_, _, rfl, ent_lead, fun W rv hW => ?_⟩
  have key : ∀ {q : Nat} {c : Array Value} {t : TypeId}, w.heap[q]? = some (.cells c t (0, 0)) → t ≠ 141 → W.heap[q]? = some (.cells c t (0, 0)) := fun {q c t} hq ht => hW.keep hq (by
    rintro rfl
    obtain ⟨c', hu⟩ := hW.ub
    have := hq.symm.trans hu
    injection this with this
    injection this with _ e2
    exact ht e2)
  cases hq : goalU ⟨x.labs, its, x.firsts⟩ x.ps q with
  | error e => rw [hq] at hok; exact absurd hok (by simp)
  | ok pl =>
    rw [hq] at hok
    simp only [if_true] at hok
    cases he : longB op p pl with
    | error e => rw [he] at hok; exact absurd hok (by simp [Except.map])
    | ok b' =>
      rw [he] at hok
      simp only [Except.map] at hok
      injection hok with hok
      obtain ⟨rfl, rfl⟩ := Prod.mk.inj hok
      have hbd := goal_bd x w its q pl hW.st s2 hq
      have s2' : GoalOk x W q := by
        cases q with
        | val nm add => exact s2
        | slot g i =>
          obtain ⟨o1, vv, mv, o2⟩ := s2
          exact ⟨o1, vv, mv, key o2 (by decide)⟩
      have hG : GoalR W x.gu tv q := k3.stays fun {q c t} a ht => key a (by rintro rfl; exact absurd ht (by decide))
      have hT : Tells W tv pl := goal_any x rv tv q its pl W hW.s0 hW.box hG s2' hq
      refine (lead1_six gt gi ⟨op, n, m, imm⟩ tv p pl b' W hW.s0.laid (key k1 (by decide)) (key k2 (by decide)) hT h0 h1 (by omega) (by omega) hop he).mono ?_
      rintro r W' ⟨⟨ca, cl, cc, rfl, ho⟩, hb⟩
      exact ⟨ca, cl, cc, rv, rfl, ho, hW.go hb, Ch.of hb⟩

end Go.Proofs.YtgjmbjahgcndnaaGreatDoor

namespace Go.Proofs.YtgjmbjahgcndnaaGreatDoor
open Go.RowKit

/-- A branch's goal is a label that is there. -/
def GoodB (labs : List (List UInt8 × Nat)) (i : It) : Prop := match i.gen with
  | .lead op _ _ _ q => Isa.infoShape op = 4 → (i.size = 2 ∨ i.size = 6) ∧ ∃ nm add k, q = .val nm add ∧ nm ≠ [] ∧ nm.length ≤ maxLen ∧ -100000000000 ≤ add ∧ add ≤ 100000000000 ∧ labelAt nm labs = some k
  | _ => True

/-- The unit while places are laid. -/
structure LY (w W : World) (gu gp mb n : Nat) (nv pp rv : Value) (ln : Int) (labs : List (List UInt8 × Nat)) (its : List It) : Prop where
  it : ∃ iv l, W.heap[gu]? = some (.cells (uC (.slice none 0 0) ln nv (.map (some mb)) iv pp (.slice (some ⟨gp, 0, none⟩) (n + 1) (n + 1)) rv) 141 (0, 0)) ∧ W.ownsRow (gu + 1) 198 6 iv its.length (itC l) ∧ l.map (·.1) = its ∧ ∀ p, p ∈ l → GenR w gu p.1 p.2.1 p.2.2
  pl : PlR W gp n 0 []
  lb : LbR W mb labs
  la : Isa.Laid W
  km : KeepM w W
  bl : Below gu w W
  n : its.length = n

section
variable {w W : World} {gu gp mb n : Nat} {nv pp rv : Value} {ln : Int} {labs : List (List UInt8 × Nat)} {its : List It}

theorem LY.gen {x : It} {fa by' : Value} (h : LY w W gu gp mb n nv pp rv ln labs its) (hg : GenR w gu x fa by') : GenR W gu x fa by' :=
  hg.stays fun {q c t} a ht => h.km.2 q _ a (by rintro c' f e; injection e with _ e2; subst e2; exact absurd ht (by decide)) (by rintro c' f e; injection e with _ e2; subst e2; exact absurd ht (by decide))
theorem LY.ur (h : LY w W gu gp mb n nv pp rv ln labs its) : UR W (gu + 1) gu (.slice none 0 0) ln nv (.map (some mb)) pp (.slice (some ⟨gp, 0, none⟩) (n + 1) (n + 1)) rv its := by
  obtain ⟨iv, l, u1, u2, u3, u4⟩ := h.it
  exact ⟨by omega, blk_lt u1, iv, l, u1, u2, u3, fun p hp => h.gen (u4 p hp)⟩

/-- One block changes: a row of items, or places of one's own. -/
theorem LY.grown {W' : World} {its' : List It} {g : Nat} {cur : Array Value} {t : TypeId} (h : LY w W gu gp mb n nv pp rv ln labs its) (hg : W.grownBy W' (some g)) (ht : W.heap[g]? = some (.cells cur t (0, 0))) (hlt : gu < g) (hty : t = 198 ∨ w.heap.size ≤ g)
    (hit : ∃ iv l, W'.heap[gu]? = some (.cells (uC (.slice none 0 0) ln nv (.map (some mb)) iv pp (.slice (some ⟨gp, 0, none⟩) (n + 1) (n + 1)) rv) 141 (0, 0)) ∧ W'.ownsRow (gu + 1) 198 6 iv its'.length (itC l) ∧ l.map (·.1) = its' ∧ ∀ p, p ∈ l → GenR w gu p.1 p.2.1 p.2.2) (hpl : PlR W' gp n 0 []) (hn : its'.length = n) (hi : max 1 4 < gu) : LY w W' gu gp mb n nv pp rv ln labs its' := by
  have hb : Below gu W W' := ⟨hg.os, hg.tape, hg.output, hg.size, fun i hi => hg.block i (by have := blk_lt ht; omega) (by intro e; injection e with e; omega)⟩
  refine ⟨hit, hpl, h.lb.grown hg ?_, h.la.below hb hi, ⟨Nat.le_trans h.km.1 hg.size, fun q o hq h1 h2 => ?_⟩, h.bl.trans hb, hn⟩
  · intro e
    injection e with e
    obtain ⟨D, ⟨es, ck, hb, F⟩, hd⟩ := h.lb
    subst e
    rw [ht] at hb
    cases hb
  · have hq1 := h.km.2 q o hq h1 h2
    rw [hg.block q (blk_lt hq1) ?_]
    · exact hq1
    · intro e
      injection e with e
      subst e
      rcases hty with rfl | hty
      · rw [ht] at hq1
        injection hq1 with hq1
        exact h2 _ _ hq1.symm
      · have := blk_lt hq
        omega

theorem tell_ly (h : LY w W gu gp mb n nv pp rv ln labs its) (hgp : w.heap.size ≤ gp) (hgu : gu < w.heap.size) (hx : ∀ x, x ∈ its → Laid1 x) (hn : n ≤ 100000) (hi : max 1 4 < gu) :
    Calls Tryz.prog 97 #[.pointer (some ⟨gu, 0, none⟩)] W fun r W' => r = .returned (.tuple #[]) ∧ LY w W' gu gp mb n nv pp rv ln labs its ∧ PlR W' gp n (n + 1) (tellU 0 its) := by
  obtain rfl := h.n
  refine (tell_any gu (gu + 1) gp _ nv _ pp rv ln its W h.ur h.pl hx hn).mono ?_
  rintro r W' ⟨rfl, hp, hg⟩
  obtain ⟨cs, k1, _⟩ := h.pl
  obtain ⟨iv, l, u1, u2, u3, u4⟩ := h.it
  have hne : ∀ {q : Nat} {c : Array Value} {t : TypeId}, W.heap[q]? = some (.cells c t (0, 0)) → t ≠ 3 → W'.heap[q]? = some (.cells c t (0, 0)) := fun {q c t} hq ht => by
    rw [hg.block q (blk_lt hq) (by
      intro e
      injection e with e
      subst e
      rw [k1] at hq; injection hq with hq; injection hq with _ e2; exact ht e2.symm)]
    exact hq
  refine ⟨rfl, h.grown hg k1 (by omega) (.inr hgp) ⟨iv, l, hne u1 (by decide), ?_, u3, u4⟩ ?_ rfl hi, hp⟩
  · refine ⟨u2.1, ?_⟩
    rcases u2.2 with h5 | ⟨q, cap, cur, h5, h6, h7, h8⟩
    · exact .inl h5
    · exact .inr ⟨q, cap, cur, h5, h6, hne h7 (by decide), h8⟩
  · obtain ⟨cs', a1, a2, a3, _⟩ := hp
    exact ⟨cs', a1, a2, a3, fun i hi => by omega⟩

theorem lengthen_ly (firsts : Nat → Nat) (h : LY w W gu gp mb n nv pp rv ln labs its) (hp : PlR W gp n (n + 1) (tellU 0 its)) (hx : ∀ x, x ∈ its → Laid1 x ∧ GoodB labs x) (hn : n ≤ 3000) (hi : max 1 4 < gu) (hlab : ∀ nm k, labelAt nm labs = some k → k ≤ n) (hpos : 0 < n) :
    Calls Tryz.prog 98 #[.pointer (some ⟨gu, 0, none⟩)] W fun r W' => r = .returned (.bool (longU ⟨labs, its, firsts⟩ (tellU 0 its) 0 its).2) ∧ LY w W' gu gp mb n nv pp rv ln labs (longU ⟨labs, its, firsts⟩ (tellU 0 its) 0 its).1 ∧ PlR W' gp n (n + 1) (tellU 0 its) := by
  obtain rfl := h.n
  obtain ⟨iv, l, u1, u2, u3, u4⟩ := h.it
  have hbd : ∀ k, 0 ≤ (tellU 0 its).getD k 0 ∧ (tellU 0 its).getD k 0 ≤ 1000000 := fun k => by
    by_cases hk : k ≤ its.length
    · have := tell_bounds its 0 k (Int.le_refl _) (fun x hxx => (hx x hxx).1) hk
      omega
    · have : (tellU 0 its).getD k 0 = 0 := by
        rw [List.getD_eq_getElem?_getD, List.getElem?_eq_none (by rw [tell_len]; omega)]
        rfl
      omega
  let x : SU := ⟨gu, gp, mb, its.length, .slice none 0 0, nv, iv, pp, ln, labs, tellU 0 its, firsts⟩
  have hs : S0 x W := ⟨hp, h.lb, h.la, hi, by show its.length ≤ 100000; omega, hbd, hlab⟩
  refine (lengthen_any x rv (gu + 1) its l w W (fun _ _ _ hh => h.gen hh) hs (by show gu < gu + 1; omega) u1 u2 u3 u4 rfl (fun i hii => ?_)).mono ?_
  · have hgi := (hx i hii).2
    unfold GoodB at hgi
    unfold FarOk
    cases hgen : i.gen with
    | fill => trivial
    | num nm m => trivial
    | plain op a b c => trivial
    | lead op a b c q =>
      rw [hgen] at hgi
      simp only at hgi ⊢
      intro h4
      obtain ⟨hsz, nm, add, k, rfl, hnn, hnl, ha1, ha2, hk⟩ := hgi h4
      refine ⟨hsz, ⟨hnl, ha1, ha2⟩, (tellU 0 its).getD k 0 + add, ?_⟩
      show goalU ⟨labs, its, firsts⟩ (tellU 0 its) (.val nm add) = _
      simp only [goalU, placeU, hnn, if_false, hk]
  · rintro r W' ⟨rfl, ⟨l', k1, k2, k3⟩, hg⟩
    refine ⟨rfl, ?_⟩
    rcases u2.2 with ⟨h5, h0⟩ | ⟨g, cap, cur, h5, h6, h7, h8⟩
    · omega
    · have hov : x.iv.ownBlock = some g := by show iv.ownBlock = some g; rw [h5]; rfl
      rw [hov] at hg
      have hne : ∀ {q : Nat} {o : Obj}, W.heap[q]? = some o → (∀ c, o ≠ .cells c 198 (0, 0)) → W'.heap[q]? = some o := fun {q o} hq ho => by
        rw [hg.block q (blk_lt hq) (by
          intro e
          injection e with e
          subst e
          rw [h7] at hq; injection hq with hq; exact ho _ hq.symm)]
        exact hq
      obtain ⟨cs, p1, p2, p3, p4⟩ := hp
      have p1' := hne p1 (by intro c e; injection e with _ e2; exact absurd e2 (by decide))
      refine ⟨h.grown hg h7 (by omega) (.inl rfl) ⟨iv, l', hne u1 (by intro c e; injection e with _ e2; exact absurd e2 (by decide)), ?_, k1, ?_⟩ ⟨cs, p1', p2, p3, fun i hi => by omega⟩ (longU_len _ _ _ _) hi, ⟨cs, p1', p2, p3, p4⟩⟩
      · rw [longU_len]
        exact k2
      · exact k3
end

end Go.Proofs.YtgjmbjahgcndnaaGreatDoor

namespace Go.Proofs.YtgjmbjahgcndnaaGreatDoor
open Go.RowKit

theorem longU_no (u : Un) (ps : List Int) : ∀ (l : List It) (k : Nat), (longU u ps k l).2 = false → (longU u ps k l).1 = l
  | [], k, _ => rfl
  | x :: l, k, h => by
    rw [longU_cons] at h ⊢
    simp only [Bool.or_eq_false_iff] at h
    simp only [long1, h.1, longU_no u ps l _ h.2]
    rfl

section
variable {w : World} {gu mb : Nat} {nv pp pv rv : Value} {ln : Int} {labs : List (List UInt8 × Nat)} {its : List It}

theorem LY.go {w W W' : World} {gu gp mb n : Nat} {nv pp rv : Value} {ln : Int} {labs : List (List UInt8 × Nat)} {its : List It} (h : LY w W gu gp mb n nv pp rv ln labs its) (hb : Below W.heap.size W W') : LY w W' gu gp mb n nv pp rv ln labs its := by
  obtain ⟨iv, l, u1, u2, u3, u4⟩ := h.it
  exact ⟨⟨iv, l, (hb.block _ (blk_lt u1)).trans u1, Sc.owns_below u2 hb (Nat.le_refl _), u3, u4⟩, h.pl.go hb, h.lb.go hb, h.la.below hb h.la.sz, h.km.trans (KeepM.of hb), h.bl.trans (hb.mono (Nat.le_of_lt (blk_lt u1))), h.n⟩

theorem ly_begin (h : UR w (gu + 1) gu (.slice none 0 0) ln nv (.map (some mb)) pp pv rv its) (hlb : LbR w mb labs) (hla : Isa.Laid w) (hi : max 1 4 < gu) :
    LY w ((w.setCell ⟨gu, 6, none⟩ (.slice (some ⟨w.heap.size, 0, none⟩) (its.length + 1) (its.length + 1))).alloc (.cells (madeCells #[.int .i64 0] (its.length + 1)) 3)) gu w.heap.size mb its.length nv pp rv ln labs its := by
  obtain ⟨iv, l, u1, u2, u3, u4⟩ := h.its
  have hg := blk_lt u1
  have kp : ∀ {q : Nat} {o : Obj}, w.heap[q]? = some o → q ≠ gu → ((w.setCell ⟨gu, 6, none⟩ (.slice (some ⟨w.heap.size, 0, none⟩) (its.length + 1) (its.length + 1))).alloc (.cells (madeCells #[.int .i64 0] (its.length + 1)) 3)).heap[q]? = some o := fun {q o} hq hne => by
    rw [old2 _ _ (by simpa using blk_lt hq), Below.heap_setCell _ _ _ _ hne]
    exact hq
  refine ⟨⟨iv, l, ?_, ?_, u3, u4⟩, ?_, ?_, ?_, ⟨by simp, fun q o hq h1 _ => kp hq (by rintro rfl; rw [u1] at hq; injection hq with hq; exact h1 _ _ hq.symm)⟩, ?_, rfl⟩
  · rw [old2 _ _ (by simpa using hg)]
    exact blk_set u1
  · refine ⟨u2.1, ?_⟩
    rcases u2.2 with h5 | ⟨q, cap, cur, h5, h6, h7, h8⟩
    · exact .inl h5
    · exact .inr ⟨q, cap, cur, h5, h6, kp h7 (by omega), h8⟩
  · have := PlR.made (w.setCell ⟨gu, 6, none⟩ (.slice (some ⟨w.heap.size, 0, none⟩) (its.length + 1) (its.length + 1))) its.length
    simpa using this
  · obtain ⟨D, ⟨es, ck, hb, F⟩, hd⟩ := hlb
    exact ⟨D, ⟨es, ck, kp hb (by rintro rfl; rw [u1] at hb; cases hb), F⟩, hd⟩
  · exact hla.below (B := gu) (((Below.refl gu w).setCell (p := ⟨gu, 6, none⟩) (Nat.le_refl _) _).alloc (by simp; omega) _) hi
  · exact ((Below.refl gu w).setCell (p := ⟨gu, 6, none⟩) (Nat.le_refl _) _).alloc (by simp; omega) _
end

set_option maxHeartbeats 4000000 in
theorem lay_two (w : World) (gu mb : Nat) (nv pp rv : Value) (pa : Option Addr) (pb pc : Nat) (ln : Int) (labs : List (List UInt8 × Nat)) (firsts : Nat → Nat) (its its2 : List It) (h : UR w (gu + 1) gu (.slice none 0 0) ln nv (.map (some mb)) pp (.slice pa pb pc) rv its) (hlb : LbR w mb labs) (hla : Isa.Laid w) (hi : max 1 4 < gu)
    (hx : ∀ x, x ∈ its → Laid1 x ∧ GoodB labs x) (hx2 : ∀ x, x ∈ its2 → Laid1 x ∧ GoodB labs x) (hpos : 0 < its.length) (hn : its.length ≤ 3000) (hlab : ∀ nm k, labelAt nm labs = some k → k ≤ its.length)
    (hl1 : (tellU 0 its).getD its.length 0 ≤ 8000) (hlong : longU ⟨labs, its, firsts⟩ (tellU 0 its) 0 its = (its2, true)) (hl2 : (tellU 0 its2).getD its.length 0 ≤ 8000) (hlong2 : (longU ⟨labs, its2, firsts⟩ (tellU 0 its2) 0 its2).2 = false) :
    Calls Tryz.prog 73 #[.pointer (some ⟨gu, 0, none⟩)] w fun r w' => r = .returned (.int .i64 0) ∧ ∃ gp, w.heap.size ≤ gp ∧ LY w w' gu gp mb its.length nv pp rv ln labs its2 ∧ PlR w' gp its.length (its.length + 1) (tellU 0 its2) := by
  have hlen2 : its2.length = its.length := by have := longU_len ⟨labs, its, firsts⟩ (tellU 0 its) its 0; rw [hlong] at this; exact this
  have HB := Lib.hid (ly_begin h hlb hla hi)
  obtain ⟨iv, l, h1, h2, h3, h4⟩ := id h.its
  obtain ⟨ia, ic, rfl⟩ := row_shape h2
  have c4 : w.cell? ⟨gu, 4, none⟩ = some (.slice ia its.length ic) := blk_cell h1 rfl
  have c6 : w.cell? ⟨gu, 6, none⟩ = some (.slice pa pb pc) := blk_cell h1 rfl
  have f6 : w.frozen? ⟨gu, 6, none⟩ = false := blk_froz h1
  have hg := blk_lt h1
  have hmk : ∀ W, (Instr.makeSlice 22 (.int .i64 ((its.length : Int) + 1)) (.int .i64 ((its.length : Int) + 1))).run Tryz.prog W = .ok (.slice (some ⟨W.heap.size, 0, none⟩) (its.length + 1) (its.length + 1)) (W.alloc (.cells (madeCells #[.int .i64 0] (its.length + 1)) 3)) := fun W => makeI (its.length + 1) (by omega) W
  have HT1 := Lib.hid fun W (hW : LY w W gu w.heap.size mb its.length nv pp rv ln labs its) => tell_ly hW (Nat.le_refl _) hg (fun x hxx => (hx x hxx).1) (by omega) hi
  have HL1 := Lib.hid fun W (hW : LY w W gu w.heap.size mb its.length nv pp rv ln labs its) (hp : PlR W w.heap.size its.length (its.length + 1) (tellU 0 its)) => lengthen_ly firsts hW hp hx hn hi hlab hpos
  have HT2 := Lib.hid fun W (hW : LY w W gu w.heap.size mb its.length nv pp rv ln labs its2) => tell_ly hW (Nat.le_refl _) hg (fun x hxx => (hx2 x hxx).1) (by omega) hi
  have HL2 := Lib.hid fun W (hW : LY w W gu w.heap.size mb its.length nv pp rv ln labs its2) (hp : PlR W w.heap.size its.length (its.length + 1) (tellU 0 its2)) => lengthen_ly firsts hW hp hx2 hn hi hlab hpos
  rw [hlong] at HL1
  rw [longU_no _ _ _ _ hlong2, hlong2] at HL2
  have HBX : Hid (∀ W its', LY w W gu w.heap.size mb its.length nv pp rv ln labs its' → ∃ ja jc, gu < W.heap.size ∧ W.cell? ⟨gu, 4, none⟩ = some (.slice ja its.length jc) ∧ W.cell? ⟨gu, 6, none⟩ = some (.slice (some ⟨w.heap.size, 0, none⟩) (its.length + 1) (its.length + 1))) := fun W its' hW => by
    obtain ⟨iv, l, u1, u2, _⟩ := hW.it
    obtain ⟨ja, jc, rfl⟩ := row_shape u2
    refine ⟨ja, jc, blk_lt u1, ?_, blk_cell u1 rfl⟩
    rw [← hW.n]
    exact blk_cell u1 rfl
  have HPC : Hid (∀ W ps, PlR W w.heap.size its.length (its.length + 1) ps → w.heap.size < W.heap.size ∧ W.cell? ⟨w.heap.size, its.length, none⟩ = some (.int .i64 (ps.getD its.length 0))) := fun W ps hp => by
    obtain ⟨cs, q1, _, _, q4⟩ := hp
    exact ⟨blk_lt q1, blk_cell q1 (q4 its.length (by omega))⟩
  clear h h1 h2 h3 h4 hx hx2 hlb hla hlong hlong2
  go_enter Tryz.func73, Tryz.ntmps73
  go_wp2_with fail
  generalize (w.setCell ⟨gu, 6, none⟩ (.slice (some ⟨w.heap.size, 0, none⟩) (its.length + 1) (its.length + 1))).alloc (.cells (madeCells #[.int .i64 0] (its.length + 1)) 3) = W0 at *
  clear c4 c6 f6 hmk
  have hlt1 : ¬ (8000 : Int) < (tellU 0 its).getD its.length 0 := by omega
  have hlt2 : ¬ (8000 : Int) < (tellU 0 its2).getD its.length 0 := by omega
  refine wp_loop_rounds 2 ?_
  rw [rounds_succ]
  go_wp2_with (go_at_call 97; refine (HT1.out _ HB.out).mono ?_; rintro e' w1 ⟨rfl, hy1, hp1⟩; obtain ⟨ja, jc, hz1, d4, d6⟩ := HBX.out w1 its hy1; obtain ⟨hzp1, dp⟩ := HPC.out w1 _ hp1; have HY1 := Lib.hid hy1; have HP1 := Lib.hid hp1; clear hy1 hp1)
  generalize (tellU 0 its).getD its.length 0 = last1 at *
  go_quiet (fail)
  have hdr : Below w1.heap.size w1 (w1.drewN nq) := below_drewN (Below.refl _ _) _
  have HC1 := Lib.hid (HL1.out _ (HY1.out.go hdr) (HP1.out.go hdr))
  clear hdr HL1 HT1 HY1 HP1 d4 d6 dp
  go_wp2_with (go_at_call 98; refine HC1.out.mono ?_; rintro e' w2 ⟨rfl, hy2, _⟩; have HY2 := Lib.hid hy2; clear hy2)
  rw [rounds_succ]
  go_wp2_with (go_at_call 97; refine (HT2.out _ HY2.out).mono ?_; rintro e' w3 ⟨rfl, hy3, hp3⟩; obtain ⟨ka, kc, hz3, d4, d6⟩ := HBX.out w3 its2 hy3; obtain ⟨hzp3, dp⟩ := HPC.out w3 _ hp3; have HY3 := Lib.hid hy3; have HP3 := Lib.hid hp3; clear hy3 hp3)
  generalize hls : (tellU 0 its2).getD its.length 0 = last2 at *
  clear hls
  go_quiet (fail)
  have hdr : Below w3.heap.size w3 (w3.drewN nq) := below_drewN (Below.refl _ _) _
  have HC2 := Lib.hid (HL2.out _ (HY3.out.go hdr) (HP3.out.go hdr))
  clear hdr HL2 HT2 HY3 HP3 d4 d6 dp
  go_wp2_with (go_at_call 98; refine HC2.out.mono ?_; rintro e' w4 ⟨rfl, hy4, hp4⟩; have HY4 := Lib.hid hy4; have HP4 := Lib.hid hp4; clear hy4 hp4)
  go_returns
  exact ⟨rfl, w.heap.size, Nat.le_refl _, HY4.out, HP4.out⟩

set_option maxHeartbeats 4000000 in
theorem lay_one (w : World) (gu mb : Nat) (nv pp rv : Value) (pa : Option Addr) (pb pc : Nat) (ln : Int) (labs : List (List UInt8 × Nat)) (firsts : Nat → Nat) (its : List It) (h : UR w (gu + 1) gu (.slice none 0 0) ln nv (.map (some mb)) pp (.slice pa pb pc) rv its) (hlb : LbR w mb labs) (hla : Isa.Laid w) (hi : max 1 4 < gu)
    (hx : ∀ x, x ∈ its → Laid1 x ∧ GoodB labs x) (hpos : 0 < its.length) (hn : its.length ≤ 3000) (hlab : ∀ nm k, labelAt nm labs = some k → k ≤ its.length)
    (hl1 : (tellU 0 its).getD its.length 0 ≤ 8000) (hlong : (longU ⟨labs, its, firsts⟩ (tellU 0 its) 0 its).2 = false) :
    Calls Tryz.prog 73 #[.pointer (some ⟨gu, 0, none⟩)] w fun r w' => r = .returned (.int .i64 0) ∧ ∃ gp, w.heap.size ≤ gp ∧ LY w w' gu gp mb its.length nv pp rv ln labs its ∧ PlR w' gp its.length (its.length + 1) (tellU 0 its) := by
  have HB := Lib.hid (ly_begin h hlb hla hi)
  obtain ⟨iv, l, h1, h2, h3, h4⟩ := id h.its
  obtain ⟨ia, ic, rfl⟩ := row_shape h2
  have c4 : w.cell? ⟨gu, 4, none⟩ = some (.slice ia its.length ic) := blk_cell h1 rfl
  have c6 : w.cell? ⟨gu, 6, none⟩ = some (.slice pa pb pc) := blk_cell h1 rfl
  have f6 : w.frozen? ⟨gu, 6, none⟩ = false := blk_froz h1
  have hg := blk_lt h1
  have hmk : ∀ W, (Instr.makeSlice 22 (.int .i64 ((its.length : Int) + 1)) (.int .i64 ((its.length : Int) + 1))).run Tryz.prog W = .ok (.slice (some ⟨W.heap.size, 0, none⟩) (its.length + 1) (its.length + 1)) (W.alloc (.cells (madeCells #[.int .i64 0] (its.length + 1)) 3)) := fun W => makeI (its.length + 1) (by omega) W
  have HT1 := Lib.hid fun W (hW : LY w W gu w.heap.size mb its.length nv pp rv ln labs its) => tell_ly hW (Nat.le_refl _) hg (fun x hxx => (hx x hxx).1) (by omega) hi
  have HL1 := Lib.hid fun W (hW : LY w W gu w.heap.size mb its.length nv pp rv ln labs its) (hp : PlR W w.heap.size its.length (its.length + 1) (tellU 0 its)) => lengthen_ly firsts hW hp hx hn hi hlab hpos
  rw [longU_no _ _ _ _ hlong, hlong] at HL1
  have HBX : Hid (∀ W its', LY w W gu w.heap.size mb its.length nv pp rv ln labs its' → ∃ ja jc, gu < W.heap.size ∧ W.cell? ⟨gu, 4, none⟩ = some (.slice ja its.length jc) ∧ W.cell? ⟨gu, 6, none⟩ = some (.slice (some ⟨w.heap.size, 0, none⟩) (its.length + 1) (its.length + 1))) := fun W its' hW => by
    obtain ⟨iv, l, u1, u2, _⟩ := hW.it
    obtain ⟨ja, jc, rfl⟩ := row_shape u2
    refine ⟨ja, jc, blk_lt u1, ?_, blk_cell u1 rfl⟩
    rw [← hW.n]
    exact blk_cell u1 rfl
  have HPC : Hid (∀ W ps, PlR W w.heap.size its.length (its.length + 1) ps → w.heap.size < W.heap.size ∧ W.cell? ⟨w.heap.size, its.length, none⟩ = some (.int .i64 (ps.getD its.length 0))) := fun W ps hp => by
    obtain ⟨cs, q1, _, _, q4⟩ := hp
    exact ⟨blk_lt q1, blk_cell q1 (q4 its.length (by omega))⟩
  clear h h1 h2 h3 h4 hx hlb hla hlong
  go_enter Tryz.func73, Tryz.ntmps73
  go_wp2_with fail
  generalize (w.setCell ⟨gu, 6, none⟩ (.slice (some ⟨w.heap.size, 0, none⟩) (its.length + 1) (its.length + 1))).alloc (.cells (madeCells #[.int .i64 0] (its.length + 1)) 3) = W0 at *
  clear c4 c6 f6 hmk
  have hlt1 : ¬ (8000 : Int) < (tellU 0 its).getD its.length 0 := by omega
  refine wp_loop_rounds 1 ?_
  rw [rounds_succ]
  go_wp2_with (go_at_call 97; refine (HT1.out _ HB.out).mono ?_; rintro e' w1 ⟨rfl, hy1, hp1⟩; obtain ⟨ja, jc, hz1, d4, d6⟩ := HBX.out w1 its hy1; obtain ⟨hzp1, dp⟩ := HPC.out w1 _ hp1; have HY1 := Lib.hid hy1; have HP1 := Lib.hid hp1; clear hy1 hp1)
  generalize (tellU 0 its).getD its.length 0 = last1 at *
  go_quiet (fail)
  have hdr : Below w1.heap.size w1 (w1.drewN nq) := below_drewN (Below.refl _ _) _
  have HC1 := Lib.hid (HL1.out _ (HY1.out.go hdr) (HP1.out.go hdr))
  clear hdr HL1 HT1 HY1 HP1 d4 d6 dp
  go_wp2_with (go_at_call 98; refine HC1.out.mono ?_; rintro e' w2 ⟨rfl, hy2, hp2⟩; have HY2 := Lib.hid hy2; have HP2 := Lib.hid hp2; clear hy2 hp2)
  go_returns
  exact ⟨rfl, w.heap.size, Nat.le_refl _, HY2.out, HP2.out⟩

end Go.Proofs.YtgjmbjahgcndnaaGreatDoor

namespace Go.Proofs.YtgjmbjahgcndnaaGreatDoor
open Go.RowKit

/-- What is asked of an item. -/
def FarEnd (i : It) : Prop :=
  Laid1 i ∧ (1 ≤ i.align ∧ i.align ≤ 16) ∧ i.upTo = 1 ∧
  match i.gen with
  | .fill => False
  | .num nm add => (i.size = 1 ∨ i.size = 2 ∨ i.size = 4) ∧ nm.length ≤ maxLen ∧ -100000000000 ≤ add ∧ add ≤ 100000000000
  | .plain _ _ _ _ => True
  | .lead op _ _ _ q => (i.size = 2 ∨ i.size = 6 ∧ (op = 17 ∨ op = 18)) ∧ ∃ nm add, q = .val nm add ∧ nm.length ≤ maxLen ∧ -100000000000 ≤ add ∧ add ≤ 100000000000

theorem write_far {w0 w W' : World} {gu gp mb n : Nat} {nv pp : Value} {ln : Int} {labs : List (List UInt8 × Nat)} {firsts : Nat → Nat} {its : List It} {code : List UInt8} {rs : List Re} (hbx : Bx w0 w) (hge : w0.heap.size + 2 ≤ gu) (hy : LY w W' gu gp mb n nv pp (.slice none 0 0) ln labs its) (hpl : PlR W' gp n (n + 1) (tellU 0 its)) (hnv : w.ownsRow (gu + 1) 9 1 nv labs.length (nameC labs)) (hi : max 1 4 < gu) (hn : n ≤ 3000) (hok : ∀ i, i ∈ its → FarEnd i)
    (hwr : writeU ⟨labs, its, firsts⟩ (tellU 0 its) 0 [] [] its = .ok (code, rs)) (hcl : code.length ≤ 100000 ∧ rs.length ≤ 100000) (lbk : ∀ nm k, labelAt nm labs = some k → k ≤ n) (lbs : ∀ j (h : j < labs.length), labelAt labs[j].1 labs = some labs[j].2 ∧ labs[j].1.length ≤ maxLen) (ll : labs.length ≤ 100000) :
    Calls Tryz.prog 74 #[.pointer (some ⟨gu, 0, none⟩)] W' fun r w' => ∃ ca cl cc sa sl sc qa ql qc, r = .returned (.tuple #[.agg #[.slice ca cl cc, .slice sa sl sc, .slice qa ql qc], .agg #[.int .i64 0, .int .i64 0]]) ∧ ObjAt w' (.slice ca cl cc) (.slice sa sl sc) (.slice qa ql qc) ⟨code, symsU ⟨labs, its, firsts⟩ (tellU 0 its), rs⟩ ∧ Bx w0 w' := by
  obtain rfl := hy.n
  obtain ⟨iv, l, u1, u2, u3, u4⟩ := hy.it
  have kp : ∀ {q : Nat} {c : Array Value} {t : TypeId}, w.heap[q]? = some (.cells c t (0, 0)) → t ≠ 141 → t ≠ 198 → W'.heap[q]? = some (.cells c t (0, 0)) := fun {q c t} hq h1 h2 => hy.km.2 _ _ hq (by intro c' f e; injection e with _ e3; exact h1 e3) (by intro c' f e; injection e with _ e3; exact h2 e3)
  have hnv' : W'.ownsRow (gu + 1) 9 1 nv labs.length (nameC labs) := by
    refine ⟨hnv.1, ?_⟩
    rcases hnv.2 with h5 | ⟨g, cap, cur, h5, h6, h7, h8⟩
    · exact .inl h5
    · exact .inr ⟨g, cap, cur, h5, h6, kp h7 (by decide) (by decide), h8⟩
  have hbd : ∀ k, 0 ≤ (tellU 0 its).getD k 0 ∧ (tellU 0 its).getD k 0 ≤ 900000 := fun k => by
    by_cases hk : k ≤ its.length
    · have := tell_bounds its 0 k (Int.le_refl _) (fun x hx => (hok x hx).1) hk
      omega
    · have : (tellU 0 its).getD k 0 = 0 := by
        rw [List.getD_eq_getElem?_getD, List.getElem?_eq_none (by rw [tell_len]; omega)]
        rfl
      omega
  let x : SU := ⟨gu, gp, mb, its.length, .slice none 0 0, nv, iv, pp, ln, labs, tellU 0 its, firsts⟩
  have hs : S0 x W' := ⟨hpl, hy.lb, hy.la, hi, by show its.length ≤ 100000; omega, fun k => ⟨(hbd k).1, Int.le_trans (hbd k).2 (by decide)⟩, lbk⟩
  have hll : l.length = its.length := by rw [← u3]; simp
  refine (write_any x (gu + 1) W' its l code rs hs u1 u2 u3 rfl (fun p hp => (hy.gen (u4 p hp)).shape.1) (fun i hi => (hok i hi).2.1) ?_ hwr hcl.1 hcl.2 hnv' lbs ll).mono ?_
  · intro k hk rs1 rs2 b hrs hb
    have hki : k < its.length := by omega
    have hlk : l[k].1 = its[k] := by subst u3; simp
    have hokk := hok its[k] (List.getElem_mem _)
    have hstep := tell_step its 0 k hki
    have hb0 := hbd k
    obtain ⟨_, _, hup, hlast⟩ := hokk
    have hz1 : (its[k].upTo - ((tellU 0 its).getD k 0).tmod its[k].upTo).tmod its[k].upTo = 0 := by rw [hup]; exact Int.tmod_one _
    have hsz : (tellU 0 its).getD (k + 1) 0 - (tellU 0 its).getD k 0 = its[k].size := by omega
    have hG := hy.gen (u4 _ (List.getElem_mem (l := l) (n := k) hk))
    rw [hsz] at hb ⊢
    cases hg : its[k].gen with
    | fill => rw [hg] at hlast; exact hlast.elim
    | num nm add =>
      rw [hg] at hlast
      simp only at hlast
      refine bytes_any x W' its l[k].1 l[k].2.1 l[k].2.2 _ _ rs1 rs2 b hG ?_ hb0.1 (by show (tellU 0 its).getD k 0 ≤ 1000000; omega) hrs hb
      rw [hlk]
      unfold ItOk
      rw [hg]
      simp only
      exact ⟨hlast.1, hlast.2.1, by omega, by omega⟩
    | plain op a m imm =>
      refine bytes_any x W' its l[k].1 l[k].2.1 l[k].2.2 _ _ rs1 rs2 b hG ?_ hb0.1 (by show (tellU 0 its).getD k 0 ≤ 1000000; omega) hrs hb
      rw [hlk]
      unfold ItOk
      rw [hg]
      trivial
    | lead op a m imm q =>
      rw [hg] at hlast
      simp only at hlast
      obtain ⟨hss, nm, add, rfl, q1, q2, q3⟩ := hlast
      rcases hss with e2 | ⟨e6, hop⟩
      · refine bytes_any x W' its l[k].1 l[k].2.1 l[k].2.2 _ _ rs1 rs2 b hG ?_ hb0.1 (by show (tellU 0 its).getD k 0 ≤ 1000000; omega) hrs hb
        rw [hlk]
        unfold ItOk
        rw [hg]
        simp only
        exact ⟨by rw [e2]; decide, q1, q2, q3⟩
      · rw [e6] at hb ⊢
        exact bytes_six x W' its l[k].1 op a m imm (.val nm add) (by rw [hlk]; exact hg) hop l[k].2.1 l[k].2.2 _ rs1 rs2 b hG ⟨q1, q2, q3⟩ hb0.1 hb0.2 hb
  · rintro r w' ⟨ca, cl, cc, sa, sl, sc, qa, ql, qc, rfl, h1, h2, h3, h4⟩
    have hx0 := kp hbx.x0 (by decide) (by decide)
    have hx1 := kp hbx.x1 (by decide) (by decide)
    have h4' : Fr gu W'.heap.size W' w' := h4
    have hB' : Below w0.heap.size w0 W' := hbx.bel.trans (hy.bl.mono (by omega))
    refine ⟨ca, cl, cc, sa, sl, sc, qa, ql, qc, rfl, ⟨h1, h2, h3⟩, ⟨hB'.trans ((h4'.lowd (Nat.le_of_lt (blk_lt u1))).mono (by omega)), ?_, ?_⟩⟩
    · rw [h4'.block _ (blk_lt hx0) (by omega)]; exact hx0
    · rw [h4'.block _ (blk_lt hx1) (by omega)]; exact hx1

end Go.Proofs.YtgjmbjahgcndnaaGreatDoor

namespace Go.Proofs.YtgjmbjahgcndnaaGreatDoor
open Go.RowKit Go.Maps Go.MapKept

def its5 (gp : Nat) : List It := its3 gp ++ [fillI 3 4, numI 3 4 [97] 0]
def codeA : List UInt8 := [209, 1, 175, 253, 0, 9, 0, 0, 0, 0, 0, 0]
def relA : List Re := [⟨8, 4, [], 0⟩]
theorem wr_alive (gp : Nat) : writeU ⟨labsA, its5 gp, fun _ => 4⟩ (tellU 0 (its5 gp)) 0 [] [] (its5 gp) = .ok (codeA, relA) := by kernel_rfl
theorem last_alive (gp : Nat) : (tellU 0 (its5 gp)).getD (its5 gp).length 0 ≤ 8000 := by
  have : (tellU 0 (its5 gp)).getD (its5 gp).length 0 = 12 := by kernel_rfl
  omega
def lsA : List (Int × List Tk) := [(1, tk1), (2, tk2), (3, [tkNop])]
def obA : Ob := ⟨codeA, [⟨[97], 0⟩], relA⟩

theorem Begun.al {w W : World} {gu mb gp mi : Nat} (h : Begun w W gu mb gp mi) : AlR w W gu mb gp mi 0 [] [] false :=
  ⟨h.bx, ⟨_, h.ur, World.ownsRow_nil _ _ _ _⟩, lbr_nil h.mp, by simp only [Bool.false_eq_true, if_false]; exact ⟨h.po, h.mq⟩⟩

/-- Lines read and the pool laid. -/
structure AlE (w W : World) (gu mb gp : Nat) : Prop where
  bx : Bx w W
  ur : ∃ nv pp, UR W (gu + 1) gu (.slice none 0 0) 3 nv (.map (some mb)) pp (.slice none 0 0) (.slice none 0 0) (its5 gp) ∧ W.ownsRow (gu + 1) 9 1 nv labsA.length (nameC labsA)
  lb : LbR W mb labsA
  po : ∃ vv mv, W.heap[gp]? = some (.cells #[.int .i64 ((4 : Nat) : Int), vv, mv] 184 (0, 0))

theorem end_alive (w W : World) (gu mb gp mi : Nat) (hge : w.heap.size + 2 ≤ gu ∧ w.heap.size + 2 ≤ mb ∧ w.heap.size + 2 ≤ gp ∧ w.heap.size + 2 ≤ mi) (h : AlR w W gu mb gp mi 3 labsA (its3 gp) true) :
    Calls Tryz.prog 72 #[.pointer (some ⟨gu, 0, none⟩)] W fun r w' => r = .returned (.tuple #[]) ∧ AlE w w' gu mb gp := by
  obtain ⟨g1, g2, g3, g4⟩ := hge
  obtain ⟨nv, hu, hn⟩ := h.ur
  have hp := h.po
  simp only [if_true] at hp
  obtain ⟨va, vc, b0, p1, p2⟩ := hp
  refine (endPool_one gu (gu + 1) gp mi _ nv _ _ _ 3 0 (its3 gp) [97] 0 va vc b0 W hu p1 p2 (by simp [its3, its2, its1])).mono ?_
  rintro r w' ⟨rfl, ⟨gp', mq', hu', _⟩, hp', ⟨o1, o2, o3, o4⟩, hsz, hk⟩
  have hBX := h.bx.bel
  have nc : ∀ {c : Array Value} {t : TypeId}, t ≠ 141 → ∀ c' f', Obj.cells c t (0, 0) ≠ .cells c' 141 f' := fun ht c' f' e => by injection e with _ e3; exact ht e3
  have ni : ∀ {c : Array Value} {t : TypeId}, t ≠ 198 → ∀ c' f', Obj.cells c t (0, 0) ≠ .cells c' 198 f' := fun ht c' f' e => by injection e with _ e3; exact ht e3
  refine ⟨rfl, ⟨⟨o1.trans hBX.os, o2.trans hBX.tape, o3.trans hBX.output, Nat.le_trans hBX.size hsz, fun i hi => ?_⟩, hk _ _ h.bx.x0 (nc (by decide)) (ni (by decide)) (by omega), hk _ _ h.bx.x1 (nc (by decide)) (ni (by decide)) (by omega)⟩, ⟨nv, _, hu', ?_⟩, ?_, ⟨_, _, hp'⟩⟩
  · rw [o4 i (by omega) (by omega) (by omega)]
    exact hBX.block i hi
  · refine ⟨hn.1, ?_⟩
    rcases hn.2 with h5 | ⟨q, cap, cur, h5, h6, h7, h8⟩
    · exact .inl h5
    · exact .inr ⟨q, cap, cur, h5, h6, hk _ _ h7 (nc (by decide)) (ni (by decide)) (by rintro rfl; rw [p1] at h7; injection h7 with h7; injection h7 with _ e3; exact absurd e3 (by decide)), h8⟩
  · obtain ⟨D, ⟨es, ck, hb, F⟩, hd⟩ := h.lb
    exact ⟨D, ⟨es, ck, hk _ _ hb (by intro c f e; cases e) (by intro c f e; cases e) (by rintro rfl; rw [p1] at hb; cases hb), F⟩, hd⟩

theorem makes_alive (w W1 : World) (gu mb gp mi : Nat) (hA : AllLaid w) (h : Begun w W1 gu mb gp mi) : Makes w gu lsA obA W1 := by
  have hge := h.ge
  have hsz := hA.isa.sz
  refine ⟨⟨fun k W => (k = 0 ∧ W = W1) ∨ (k = 1 ∧ AlR w W gu mb gp mi 1 labsA (its1 gp) true) ∨ (k = 2 ∧ AlR w W gu mb gp mi 2 labsA (its2 gp) true) ∨ (k = 3 ∧ AlR w W gu mb gp mi 3 labsA (its3 gp) true), fun W => AlE w W gu mb gp, fun W' => ∃ W, Told w W W' gu mb labsA (fun _ => 4) (its5 gp) codeA relA, .inl ⟨rfl, rfl⟩, ?_, ?_, ?_, ?_, ?_⟩⟩
  · have key : ∀ {W : World} {ln : Int} {its : List It}, AlR w W gu mb gp mi ln labsA its true → Bx w W ∧ ∃ c, W.heap[gu]? = some (.cells c 141 (0, 0)) ∧ (∃ z, c[1]? = some (.int .i64 z)) := fun {W ln its} hn => by
      obtain ⟨nv, hu, _⟩ := hn.ur
      obtain ⟨_, _, x1, _⟩ := hu.its
      exact ⟨hn.bx, _, x1, ln, rfl⟩
    rintro k W (⟨rfl, rfl⟩ | ⟨rfl, hn⟩ | ⟨rfl, hn⟩ | ⟨rfl, hn⟩)
    · obtain ⟨_, _, x1, _⟩ := h.ur.its
      exact ⟨h.bx, _, x1, 0, rfl⟩
    · exact key hn
    · exact key hn
    · exact key hn
  · intro k hk W v hST hv
    rcases hST with ⟨rfl, rfl⟩ | ⟨rfl, hn⟩ | ⟨rfl, hn⟩ | ⟨rfl, hn⟩
    · refine (read1 w _ gu mb gp mi v hA hge h.lt h.ne (h.al.line hge.1 1 _) ((h.ur.line 1).go (oalloc _ _)) hv).mono ?_
      rintro r w' ⟨rfl, hr⟩
      exact ⟨rfl, .inr (.inl ⟨rfl, hr⟩)⟩
    · refine (read2 w _ gu mb gp mi v hA hge.1 (hn.line hge.1 2 _) hv).mono ?_
      rintro r w' ⟨rfl, hr⟩
      exact ⟨rfl, .inr (.inr (.inl ⟨rfl, hr⟩))⟩
    · refine (read3 w _ gu mb gp mi v hA hge.1 (hn.line hge.1 3 _) hv).mono ?_
      rintro r w' ⟨rfl, hr⟩
      exact ⟨rfl, .inr (.inr (.inr ⟨rfl, hr⟩))⟩
    · simp [lsA] at hk
  · rintro W (⟨h1, _⟩ | ⟨h1, _⟩ | ⟨h1, _⟩ | ⟨_, hn⟩)
    · simp [lsA] at h1
    · simp [lsA] at h1
    · simp [lsA] at h1
    · exact end_alive w W gu mb gp mi hge hn
  · intro W hn
    obtain ⟨vv, mv, hpo⟩ := hn.po
    obtain ⟨nv, pp, hu, hnv⟩ := hn.ur
    refine (lay_end (w := w) (W := W) (gu := gu) (mb := mb) (labs := labsA) (firsts := fun _ => 4) (its := its5 gp) (code := codeA) (rs := relA) ?_).mono ?_
    · refine ⟨hn.bx, hge.1, ⟨3, nv, pp, hu, hnv⟩, hn.lb, hA.isa.below hn.bx.bel hA.isa.sz, by omega, by simp [its5, its3, its2, its1], ?_, last_alive gp, wr_alive gp, ⟨by decide, by decide⟩, ?_, ?_, by decide⟩
      · intro i hi
        have hin : i = leadI 1 24 1 0 0 (.slot gp 0) ∨ i = leadI 2 19 0 0 0 (.val [97] 0) ∨ i = plainI 3 1 0 0 0 ∨ i = fillI 3 4 ∨ i = numI 3 4 [97] 0 := by simpa [its5, its3, its2, its1] using hi
        have hlen : (its5 gp).length = 5 := rfl
        rw [hlen]
        rcases hin with rfl | rfl | rfl | rfl | rfl
        · exact ⟨by show Isa.infoShape 24 ≠ 4; decide, ⟨by show (0 : Int) ≤ 2; decide, by show (2 : Int) ≤ 6; decide, by show (1 : Int) ≤ 1; decide, by show (1 : Int) ≤ 16; decide⟩, ⟨by show (1 : Int) ≤ 2; decide, by show (2 : Int) ≤ 16; decide⟩, by show (2 : Int) ≤ 4; decide, rfl, rfl, by show 4 + 0 ≤ 5; decide, vv, mv, hpo⟩
        · exact ⟨by show Isa.infoShape 19 ≠ 4; decide, ⟨by decide, by decide, by decide, by decide⟩, ⟨by decide, by decide⟩, by decide, rfl, rfl, by decide, by decide, by decide⟩
        · exact ⟨trivial, ⟨by decide, by decide, by decide, by decide⟩, ⟨by decide, by decide⟩, by decide, trivial⟩
        · exact ⟨trivial, ⟨by decide, by decide, by decide, by decide⟩, ⟨by decide, by decide⟩, by decide, trivial⟩
        · exact ⟨trivial, ⟨by decide, by decide, by decide, by decide⟩, ⟨by decide, by decide⟩, by decide, .inr (.inr rfl), rfl, by decide, by decide, by decide⟩
      · intro nm k hk
        unfold labsA labelAt at hk
        split at hk
        · injection hk with hk; omega
        · simp [labelAt] at hk
      · intro j hj
        have : j = 0 := by simp [labsA] at hj; omega
        subst this
        exact ⟨by show labelAt [97] labsA = some 0; decide, by show (1 : Nat) ≤ maxLen; decide⟩
    · rintro r W' ⟨rfl, ht⟩
      exact ⟨rfl, W, ht⟩
  · rintro W' ⟨W, ht⟩
    exact write_end ht

end Go.Proofs.YtgjmbjahgcndnaaGreatDoor
