/- The source of AsmData, and its lines: functions of lists; no program in this text. asm: the unit of a source of lines of .long. asm: the bytes of an instruction that leads. -/
import Derived.Test.YtagkmgdjkailkaaGreatDoorPut38
import Derived.Test.YtagkmgdjkailkaaGreatDoorPut19
import Derived.Test.YtagkmgdjkailkaaGreatDoorUcN
import Derived.Test.YtagkmgdjkailkaaGreatDoorPut23
import Derived.Test.YtagkmgdjkailkaaGreatDoorPut30
namespace Go.Proofs.YtagkmgdjkailkaaGreatDoor.Sc
open Go.RowKit

def tLong : Tok := ⟨1, 0, [46, 108, 111, 110, 103]⟩
def tNum (n : Int) : Tok := ⟨2, n, []⟩
/-- One line, without its end. -/
def dataL (n : Int) : List UInt8 := [46, 108, 111, 110, 103, 32] ++ Lib.itoa n
/-- All lines. -/
def dataS (l : List Int) : List UInt8 := l.flatMap fun n => dataL n ++ [10]

theorem dataL_print (n : Int) : dataL n = printL [tLong, tNum n] := by
  rw [printL_cons, tailL_cons]
  simp [dataL, prT, tLong, tNum, tailL, Lib.joinTail]

theorem data_good (n : Int) (h0 : 0 ≤ n) (h1 : n < 4294967296) : ∀ t, t ∈ [tLong, tNum n] → Good t := by
  intro t ht
  simp only [List.mem_cons, List.not_mem_nil, or_false] at ht
  rcases ht with rfl | rfl
  · exact .inl ⟨46, [108, 111, 110, 103], rfl, by decide, by decide⟩
  · exact .inr (.inl ⟨n.toNat, by simp only [tNum, Int.toNat_of_nonneg h0], by omega⟩)

theorem itoa_nat (n : Int) (h0 : 0 ≤ n) : Lib.itoa n = Lib.decDigits n.toNat := by
  obtain ⟨u, rfl⟩ : ∃ u : Nat, n = u := ⟨n.toNat, by omega⟩
  simp [Lib.itoa]

theorem data_len (n : Int) (h0 : 0 ≤ n) (h1 : n < 4294967296) : (dataL n).length ≤ 27 := by
  have := Lib.itoa_length_le n (by omega) (by omega)
  rw [dataL, List.length_append]
  simp; omega

theorem data_no10 (n : Int) (h0 : 0 ≤ n) : ∀ c, c ∈ dataL n → c ≠ 10 := by
  intro c hc
  rw [dataL, List.mem_append] at hc
  rcases hc with hc | hc
  · intro e; subst e; revert hc; decide
  · rw [itoa_nat n h0] at hc
    have := List.all_eq_true.1 (decDigits_all n.toNat) c hc
    intro e; subst e; revert this; decide

theorem split_one : ∀ (a r : List UInt8), (∀ c, c ∈ a → c ≠ 10) → splitNL (a ++ 10 :: r) = a :: splitNL r
  | [], r, _ => by simp [splitNL]
  | c :: a, r, h => by
    have ih := split_one a r fun d hd => h d (by simp [hd])
    rw [List.cons_append, splitNL, if_neg (h c (by simp)), ih]

theorem data_split : ∀ l : List Int, (∀ n, n ∈ l → 0 ≤ n) → splitNL (dataS l) = l.map dataL ++ [[]]
  | [], _ => rfl
  | n :: r, h => by
    have ih := data_split r fun m hm => h m (by simp [hm])
    have e : dataS (n :: r) = dataL n ++ 10 :: dataS r := by simp [dataS]
    rw [e, split_one _ _ (data_no10 n (h n (by simp))), ih]
    rfl

def dataLn : Nat → List Int → List Ln
  | _, [] => []
  | k, n :: r => ⟨k, [tLong, tNum n]⟩ :: dataLn (k + 1) r

theorem data_linesR : ∀ (l : List Int) (k : Nat), (∀ n, n ∈ l → 0 ≤ n ∧ n < 4294967296) → linesR k (l.map dataL ++ [[]]) = .ok (dataLn k l)
  | [], k, _ => rfl
  | n :: r, k, h => by
    have ih := data_linesR r (k + 1) fun m hm => h m (by simp [hm])
    have hn := h n (by simp)
    have hl := data_len n hn.1 hn.2
    obtain ⟨e1, e2⟩ := line_done (l := dataL n) (done := [tLong, tNum n]) (by omega) (by rw [dataL_print, code_print _ (data_good n hn.1 hn.2)]; exact toks_print _ (data_good n hn.1 hn.2))
    rw [List.map_cons, List.cons_append, linesR, if_pos e1, ih, e2]
    simp [dataLn]

theorem dataS_len : ∀ l : List Int, (∀ n, n ∈ l → 0 ≤ n ∧ n < 4294967296) → (dataS l).length ≤ 28 * l.length
  | [], _ => by simp [dataS]
  | n :: r, h => by
    have ih := dataS_len r fun m hm => h m (by simp [hm])
    have hn := h n (by simp)
    have hl := data_len n hn.1 hn.2
    have e : dataS (n :: r) = dataL n ++ 10 :: dataS r := by simp [dataS]
    rw [e]
    simp; omega

theorem data_src (l : List Int) (h : ∀ n, n ∈ l → 0 ≤ n ∧ n < 4294967296) (hl : l.length ≤ 40) : srcLines (dataS l) = .ok (dataLn 1 l) := by
  unfold srcLines
  rw [if_neg (by have := dataS_len l h; omega), data_split l fun n hn => (h n hn).1]
  exact data_linesR l 1 h

end Go.Proofs.YtagkmgdjkailkaaGreatDoor.Sc

namespace Go.Proofs.YtagkmgdjkailkaaGreatDoor
open Go.RowKit

theorem lcells_at : ∀ (ps : List (Sc.Ln × Value)) (i : Nat) (h : i < ps.length), (Sc.lcells ps)[i * 2]? = some (.int .i64 ps[i].1.pos) ∧ (Sc.lcells ps)[i * 2 + 1]? = some ps[i].2
  | [], i, h => by simp at h
  | p :: r, 0, h => by simp [Sc.lcells]
  | p :: r, i + 1, h => by
    have ih := lcells_at r i (by simpa using h)
    have e : Sc.lcells (p :: r) = [.int .i64 p.1.pos, p.2] ++ Sc.lcells r := by simp [Sc.lcells]
    rw [e, show (i + 1) * 2 = 2 + i * 2 by omega]
    simp only [List.getElem_cons_succ]
    refine ⟨?_, ?_⟩
    · rw [List.getElem?_append_right (by simp)]; simpa using ih.1
    · rw [List.getElem?_append_right (by simp; omega)]; simpa [show 2 + i * 2 + 1 - 2 = i * 2 + 1 by omega] using ih.2

theorem lin_of {w : World} {base : Nat} {v : Value} {ps : List (Sc.Ln × Value)} (h : Sc.LOwn w base v ps) : LIn w v (ps.map (·.1)) := by
  rcases id h.row.2 with ⟨hv, h0⟩ | ⟨g, cap, cur, rfl, hg, hgg, hle, hm, rest⟩
  · exact ⟨none, 0, by rw [hv]; simp [h0], fun h => by simp at h; omega⟩
  · refine ⟨some ⟨g, 0, none⟩, cap, by simp, fun _ => ⟨g, 0, rfl, blk_lt hgg, fun i hi => ?_⟩⟩
    have hi' : i < ps.length := by simpa using hi
    obtain ⟨a, b⟩ := lcells_at ps i hi'
    have hadd : ∀ j, (⟨g, 0, none⟩ : Addr).add j = ⟨g, 0 + j, none⟩ := fun j => by unfold Addr.add; split <;> simp_all
    have k0 := h.row.cells rfl _ _ a
    have k1 := h.row.cells rfl _ _ b
    rw [hadd] at k0 k1
    simp only [List.getElem_map]
    exact ⟨ps[i].2, k0, k1, Sc.reads_of_owns (h.toks ps[i] (List.getElem_mem _))⟩

/-- Lines with their numbers. -/
def numbered : Nat → List Int → List (Int × Int)
  | _, [] => []
  | k, n :: r => ((k : Int), n) :: numbered (k + 1) r
theorem numbered_len : ∀ (l : List Int) (k : Nat), (numbered k l).length = l.length
  | [], _ => rfl
  | n :: r, k => by simp [numbered, numbered_len r]
theorem numbered_ln : ∀ (l : List Int) (k : Nat), (Sc.dataLn k l).map lnOf = (numbered k l).map fun a => (a.1, [tkLong, tkNum a.2])
  | [], _ => rfl
  | n :: r, k => by simp [Sc.dataLn, numbered, numbered_ln r, lnOf, tkOf, Sc.tLong, Sc.tNum, tkLong, tkNum]
theorem dataLn_head : ∀ (l : List Int) (k : Nat) (x : Sc.Ln), x ∈ Sc.dataLn k l → x.toks.length ≤ 100000 ∧ PlainHead (headS (x.toks.map tkOf))
  | [], _, x, h => by simp [Sc.dataLn] at h
  | n :: r, k, x, h => by
    rcases List.mem_cons.1 h with rfl | h
    · refine ⟨by simp, ?_⟩
      intro q hq
      have e : headS (([Sc.tLong, Sc.tNum n] : List Sc.Tok).map tkOf) = ⟨#[46, 108, 111, 110, 103]⟩ := rfl
      rw [e, ByteArray.toList_eq]
      revert q
      decide
    · exact dataLn_head r (k + 1) x h
theorem dataLn_len : ∀ (l : List Int) (k : Nat), (Sc.dataLn k l).length = l.length
  | [], _ => rfl
  | n :: r, k => by simp [Sc.dataLn, dataLn_len r]

set_option maxHeartbeats 4000000 in
theorem unit_data (v : Value) (l : List Int) (code : List UInt8) (w : World) (hv : Sc.BReads w v (Sc.dataS l)) (hr : ∀ n, n ∈ l → 0 ≤ n ∧ n < 4294967296) (hl : l.length ≤ 40) (hL : Xp.KLaid w) (hG : Sc.Glob w) (hNL : ∀ gu B e nv lm pp rv ln, NoLong gu B e nv lm pp rv ln (dataI (numbered 1 l))) (hW : WritesTo (dataI (numbered 1 l)) code) :
    Calls Tryz.prog 7 #[v] w fun r w' => (∃ ca cl cc, r = .returned (.tuple #[.agg #[.slice ca cl cc, .slice none 0 0, .slice none 0 0], .agg #[.int .i64 0, .int .i64 0]]) ∧ OBytes w' (.slice ca cl cc) code) ∧ Below w.heap.size w w' := by
  have hs := Sc.src_ok (Sc.data_src l hr hl)
  have HLN := Lib.hid fun W (hb : Below w.heap.size w W) => Sc.lines_any v (Sc.dataS l) W (hG.below hb hG.sz) (by
    obtain ⟨ad, cap, rfl, hm, hc⟩ := hv
    refine ⟨ad, cap, rfl, hm, fun h0 => ?_⟩
    obtain ⟨b, o, rfl, hlt, hcell⟩ := hc h0
    exact ⟨b, o, rfl, Nat.lt_of_lt_of_le hlt hb.size, fun i hi => by rw [hb.cell (by exact hlt)]; exact hcell i hi⟩)
  obtain ⟨ad, cap, rfl, _⟩ := hv
  obtain ⟨hs1, hs2, hs3⟩ := hs
  have HSH : Hid (∀ v W, LIn W v (Sc.dataLn 1 l) → Calls Tryz.prog 14 #[v] W fun r w' => (∃ lv, r = .returned (.tuple #[lv, .slice none 0 0, .agg #[.int .i64 0, .int .i64 0]]) ∧ LRd w' lv ((numbered 1 l).map fun a => (a.1, [tkLong, tkNum a.2]))) ∧ Below W.heap.size W w') := fun v W h => by
    have := short_any v (Sc.dataLn 1 l) W h (by rw [dataLn_len]; omega) (fun x hx => (dataLn_head l 1 x hx).1) (fun x hx => (dataLn_head l 1 x hx).2)
    rwa [numbered_ln] at this
  have HBD := Lib.hid fun v W (hb : Below w.heap.size w W) (h : LRd W v ((numbered 1 l).map fun a => (a.1, [tkLong, tkNum a.2]))) => build_data v (numbered 1 l) code W h (KL.below hL hb) (hG.below hb hG.sz) (by rw [numbered_len]; omega) hNL hW
  clear hL hG hNL hW hr
  go_enter Tryz.func7, Tryz.ntmps7
  go_wp2_with fail
  refine (HLN.out _ (by go_grown)).mono ?_
  rintro e w1 ⟨⟨lv, ps, rfl, hps, hlo⟩, hb1⟩
  rw [hs1, hs2]
  rw [hs3] at hps
  have hlin := lin_of hlo
  rw [hps] at hlin
  obtain ⟨la, lc, hlv⟩ := row_shape hlo.row
  subst hlv
  have x0 : w1.heap[w.heap.size]? = some (.cells #[.slice none 0 0, .slice none 0 0, .slice none 0 0] 28 (0, 0)) := by
    rw [hb1.block _ (by go_size), old2 _ _ (by go_size)]
    exact new_at _ _ rfl
  have x1 : w1.heap[w.heap.size + 1]? = some (.cells #[.int .i64 0, .int .i64 0] 31 (0, 0)) := by
    rw [hb1.block _ (by go_size)]
    exact new_at _ _ (by go_size)
  have HB1 : Hid (Below w.heap.size w w1) := Below.trans (by go_grown) (hb1.mono (by go_size))
  have HSC := Lib.hid fun W (hb : Below w1.heap.size w1 W) => HSH.out (.slice la ps.length lc) W (by
    obtain ⟨ad', cap', e, hh⟩ := hlin
    refine ⟨ad', cap', e, fun h0 => ?_⟩
    obtain ⟨b, o, rfl, hlt, hc⟩ := hh h0
    refine ⟨b, o, rfl, Nat.lt_of_lt_of_le hlt hb.size, fun i hi => ?_⟩
    obtain ⟨tv, a1, a2, a3⟩ := hc i hi
    exact ⟨tv, by rw [hb.cell (by exact hlt)]; exact a1, by rw [hb.cell (by exact hlt)]; exact a2, a3.below hb (Nat.le_refl _)⟩)
  have X0 := Lib.hid x0
  have X1 := Lib.hid x1
  clear hb1 hlo hlin hps x0 x1 HLN HSH hs1 hs2 hs3
  go_wp2_with fail
  refine (HSC.out _ (oalloc _ _)).mono ?_
  rintro e w2 ⟨⟨sv, rfl, hlr⟩, hb2⟩
  obtain ⟨sa, sc, hsv, _⟩ := id hlr
  subst hsv
  obtain ⟨hB2, hz2, yr⟩ := box_keep hb2
  have HB2 := Lib.hid (HB1.out.trans (hB2.mono HB1.out.size))
  have X02 := Lib.hid ((hB2.block _ (blk_lt X0.out)).trans X0.out)
  have X12 := Lib.hid ((hB2.block _ (blk_lt X1.out)).trans X1.out)
  have HLR := Lib.hid hlr
  have YR := Lib.hid yr
  obtain ⟨⟨u0, u1⟩, f0, f1⟩ := var2_of yr
  clear hb2 hB2 yr hlr HSC X0 X1 HB1
  go_wp2_with fail
  have hsame : Below w2.heap.size w2 ((w2.setCell ⟨w1.heap.size, 0, none⟩ (.int .i64 0)).setCell ⟨w1.heap.size, 1, none⟩ (.int .i64 0)) := (same_set YR.out rfl).trans (same_set (same_blk YR.out rfl) rfl)
  have hlr3 := HLR.out.below hsame (Nat.le_refl _)
  simp only [List.length_map] at hlr3
  refine (HBD.out _ _ (HB2.out.trans (hsame.mono HB2.out.size)) hlr3).mono ?_
  rintro e w6 ⟨⟨ca, cl, cc, rfl, hob⟩, hb6⟩
  have hb7 : Below w2.heap.size w2 w6 := hsame.trans (hb6.mono hsame.size)
  have z0 := (hb7.block _ (blk_lt X02.out)).trans X02.out
  have z1 := (hb7.block _ (blk_lt X12.out)).trans X12.out
  have g0 : w6.cell? ⟨w.heap.size, 0, none⟩ = some (.slice none 0 0) := blk_cell z0 rfl
  have g1 : w6.cell? ⟨w.heap.size, 1, none⟩ = some (.slice none 0 0) := blk_cell z0 rfl
  have g2 : w6.cell? ⟨w.heap.size, 2, none⟩ = some (.slice none 0 0) := blk_cell z0 rfl
  have q0 : w6.frozen? ⟨w.heap.size, 0, none⟩ = false := blk_froz z0
  have q1 : w6.frozen? ⟨w.heap.size, 1, none⟩ = false := blk_froz z0
  have q2 : w6.frozen? ⟨w.heap.size, 2, none⟩ = false := blk_froz z0
  obtain ⟨⟨v0, v1⟩, t0, t1⟩ := var2_of z1
  have HOB := Lib.hid hob
  have HB6 := Lib.hid (HB2.out.trans (hb7.mono HB2.out.size))
  have Z0 := Lib.hid z0
  have Z1 := Lib.hid z1
  clear hob hb6 hb7 z0 z1 hsame hlr3 HBD HLR u0 u1 f0 f1
  go_wp2_with fail
  have n3 : ∀ (x y z : Option Addr) (a b c d e f : Nat) (j : Nat) (n : Int), (#[Value.slice x a b, .slice y c d, .slice z e f] : Array Value)[j]? ≠ some (.int .u8 n) := by
    intro x y z a b c d e f j n h
    rcases j with _ | _ | _ | j <;> simp at h
  have o1 := OBytes.set (i := 0) (v := .slice ca cl cc) HOB.out Z0.out (n3 _ _ _ _ _ _ _ _ _)
  have z1 := blk_set (i := 0) (v := .slice ca cl cc) Z0.out
  have o2 := OBytes.set (i := 1) (v := .slice none 0 0) o1 z1 (n3 _ _ _ _ _ _ _ _ _)
  have z2 := blk_set (i := 1) (v := .slice none 0 0) z1
  have o3 := OBytes.set (i := 2) (v := .slice none 0 0) o2 z2 (n3 _ _ _ _ _ _ _ _ _)
  have Z1b : (((w6.setCell ⟨w.heap.size, 0, none⟩ (.slice ca cl cc)).setCell ⟨w.heap.size, 1, none⟩ (.slice none 0 0)).setCell ⟨w.heap.size, 2, none⟩ (.slice none 0 0)).heap[w.heap.size + 1]? = some (.cells #[.int .i64 0, .int .i64 0] 31 (0, 0)) := by
    rw [Below.heap_setCell _ _ _ _ (by show w.heap.size + 1 ≠ w.heap.size; omega), Below.heap_setCell _ _ _ _ (by show w.heap.size + 1 ≠ w.heap.size; omega), Below.heap_setCell _ _ _ _ (by show w.heap.size + 1 ≠ w.heap.size; omega)]
    exact Z1.out
  refine bodyPost_ret (v := .tuple #[.agg #[.slice ca cl cc, .slice none 0 0, .slice none 0 0], .agg #[.int .i64 0, .int .i64 0]]) (by simp [results, Tryz.results7, go_sem, g0, g1, g2, v0, v1]) rfl ⟨⟨ca, cl, cc, rfl, ?_⟩, ?_⟩
  · exact o3.below ((same_set Z1b rfl).trans (same_set (same_blk Z1b rfl) rfl)) (Nat.le_refl _)
  · exact ((((HB6.out.setCell (Nat.le_refl _) _).setCell (Nat.le_refl _) _).setCell (Nat.le_refl _) _).setCell (Nat.le_succ _) _).setCell (Nat.le_succ _) _

end Go.Proofs.YtagkmgdjkailkaaGreatDoor

namespace Go.Proofs.YtagkmgdjkailkaaGreatDoor
open Go.RowKit

/-- A function without arguments that tells a place. -/
def Tells (W : World) (tv : Value) (p : Int) : Prop := ∃ f caps, tv = .func (.func f) #[] caps ∧ (∀ args w, (callFunc f args).run Tryz.prog w = .ok (.enter f args) w) ∧ ∀ W', Below W.heap.size W W' → Calls Tryz.prog f caps W' fun r w' => r = .returned (.tuple #[.int .i64 p, .int .i64 0]) ∧ Below W'.heap.size W' w'

theorem lead1_any (gt gi : Nat) (k : In) (tv : Value) (p s q d : Int) (b : List UInt8) (w : World) (hL : Isa.Laid w) (hgt : w.heap[gt]? = some (.cells #[tv] 210 (0, 0))) (hgi : w.heap[gi]? = some (.cells k.C 37 (0, 0))) (hT : Tells w tv q) (h0 : 0 ≤ p) (h1 : p ≤ 1000000) (h2 : -1000000000000 ≤ q) (h3 : q ≤ 1000000000000) (h6 : s ≠ 6) (hd : ledU k.op p q = .ok d) (hok : encU k.op k.n k.m d = .ok b) :
    Calls Tryz.prog 157 #[.int .i64 p, .int .i64 s, .pointer (some ⟨gt, 0, none⟩), .pointer (some ⟨gi, 0, none⟩)] w fun r w' => (∃ ca cl cc, r = .returned (.tuple #[.slice ca cl cc, .int .i64 0]) ∧ OBytes w' (.slice ca cl cc) b) ∧ Below w.heap.size w w' := by
  obtain ⟨f, caps, rfl, hent, hto⟩ := hT
  have HTO := Lib.hid hto
  have HLE := Lib.hid fun W (hb : Below w.heap.size w W) => led_any k.op k.n k.m k.imm p q d W (hL.below hb hL.sz) h0 h1 h2 h3 hd
  have HE := Lib.hid fun W (hb : Below w.heap.size w W) g (hq : W.heap[g]? = some (.cells (In.mk k.op k.n k.m d).C 37 (0, 0))) => encoded_one ⟨k.op, k.n, k.m, d⟩ g b W (hL.below hb hL.sz) hq hok
  obtain ⟨op, n, m, imm⟩ := k
  have ct : w.cell? ⟨gt, 0, none⟩ = some (.func (.func f) #[] caps) := blk_cell hgt rfl
  have c0 : w.cell? ⟨gi, 0, none⟩ = some (.int .i64 op) := blk_cell hgi rfl
  have c1 : w.cell? ⟨gi, 1, none⟩ = some (.int .i64 n) := blk_cell hgi rfl
  have c2 : w.cell? ⟨gi, 2, none⟩ = some (.int .i64 m) := blk_cell hgi rfl
  have c3 : w.cell? ⟨gi, 3, none⟩ = some (.int .i64 imm) := blk_cell hgi rfl
  have z1 := blk_lt hgt
  have z2 := blk_lt hgi
  have h6' : (s == 6) = false := beq_eq_false_iff_ne.2 h6
  clear hL hgt hgi hok hd hto
  go_enter Tryz.func157, Tryz.ntmps157
  go_wp2_with fail
  refine (HTO.out _ (Below.refl _ _)).mono ?_
  rintro e w1 ⟨rfl, hb1⟩
  rw [← hb1.cell (by exact z2)] at c0 c1 c2 c3
  have z3 : gi < w1.heap.size := Nat.lt_of_lt_of_le z2 hb1.size
  have HB1 := Lib.hid hb1
  clear hb1 HTO ct
  go_wp2_with fail
  refine (HLE.out _ HB1.out).mono ?_
  rintro e w2 ⟨rfl, hb2⟩
  have HB2 := Lib.hid (HB1.out.trans (hb2.mono HB1.out.size))
  clear hb2 HLE HB1 c0 c1 c2 c3
  go_wp2_with fail
  have hz2 := HB2.out.size
  refine (HE.out _ ((HB2.out.alloc hz2 _).alloc (by simp; omega) _) _ (new_at _ _ (by simp))).mono ?_
  rintro e w3 ⟨⟨ca, cl, cc, rfl, hob⟩, hb3⟩
  have HOB := Lib.hid hob
  have HB3 : Hid (Below w.heap.size w w3) := ((HB2.out.alloc hz2 _).alloc (by simp; omega) _).trans (hb3.mono (by simp; omega))
  clear hob hb3 HE
  go_wp2
  go_ret2
  exact ⟨⟨ca, cl, cc, rfl, HOB.out⟩, HB3.out⟩


theorem ent_ask (args : Array Value) (w : World) : (callFunc 164 args).run Tryz.prog w = .ok (.enter 164 args) w := by kernel_rfl
theorem ent_instr (args : Array Value) (w : World) : (callFunc 132 args).run Tryz.prog w = .ok (.enter 132 args) w := by kernel_rfl

/-- What a goal asks of a unit: a label that is there, with a number that is not too great; a pool that stands. -/
def GoalOk (x : SU) (w : World) : Goal → Prop
  | .val nm add => nm.length ≤ maxLen ∧ -100000000000 ≤ add ∧ add ≤ 100000000000
  | .slot g i => x.firsts g + i ≤ x.n ∧ ∃ vv mv, w.heap[g]? = some (.cells #[.int .i64 (x.firsts g), vv, mv] 116 (0, 0))

/-- Where it leads is told. -/
theorem goal_any (x : SU) (rv tv : Value) (q : Goal) (its : List It) (p : Int) (w : World) (hs : S0 x w) (hu : w.heap[x.gu]? = some (.cells (x.C rv) 79 (0, 0))) (hg : GoalR w x.gu tv q) (hok : GoalOk x w q) (hp : goalU ⟨x.labs, its, x.firsts⟩ x.ps q = .ok p) : Tells w tv p := by
  have hu' : ∃ c, w.heap[x.gu]? = some (.cells c 79 (0, 0)) := ⟨_, hu⟩
  cases q with
  | val nm add =>
    obtain ⟨gb, gl, b, len, c, cur, rfl, k1, k2, k3, ⟨kd, r, k4, k5⟩, k6, k7⟩ := hg
    obtain ⟨o1, o2, o3⟩ := hok
    unfold goalU placeU at hp
    simp only at hp
    have hn : nm ≠ [] := by
      intro e
      rw [if_pos e] at hp
      exact absurd hp (by simp)
    rw [if_neg hn] at hp
    cases hl : labelAt nm x.labs with
    | none => rw [hl] at hp; exact absurd hp (by simp)
    | some k =>
      rw [hl] at hp
      simp only at hp
      injection hp with hp
      subst hp
      refine ⟨_, _, rfl, ent_instr, fun W hb => ?_⟩
      exact instr1_any x rv gb gl b len c k cur kd r add nm W (hs.go (Fr.below hb) hu') (by rw [hb.block _ (blk_lt hu)]; exact hu) (by rw [hb.block _ (blk_lt k1)]; exact k1) (by rw [hb.block _ (blk_lt k2)]; exact k2) (by rw [hb.block _ (blk_lt k3)]; exact k3) k4 k5 k6 k7 hn o1 hl (by omega) (by omega)
  | slot g i =>
    obtain ⟨gb, gq, gi, rfl, k1, k2, k3⟩ := hg
    obtain ⟨o1, vv, mv, o2⟩ := hok
    unfold goalU at hp
    simp only at hp
    injection hp with hp
    subst hp
    refine ⟨_, _, rfl, ent_ask, fun W hb => ?_⟩
    exact ask1_any x rv gb gq gi g i vv mv W (hs.go (Fr.below hb) hu') (by rw [hb.block _ (blk_lt hu)]; exact hu) (by rw [hb.block _ (blk_lt k1)]; exact k1) (by rw [hb.block _ (blk_lt k2)]; exact k2) (by rw [hb.block _ (blk_lt k3)]; exact k3) (by rw [hb.block _ (blk_lt o2)]; exact o2) o1

end Go.Proofs.YtagkmgdjkailkaaGreatDoor
