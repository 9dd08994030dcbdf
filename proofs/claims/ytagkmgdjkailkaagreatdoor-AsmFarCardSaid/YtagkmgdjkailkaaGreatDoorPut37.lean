/- Macro: the number of one token; a block's lines again and again. Macro: a block of .rept, of one line, done. Macro: a step at .rept. Macro: Short of lines some of which are blocks of .rept, each of one line. Macro: Short of lines some of which are blocks of .rept, each of one line. -/
import Derived.Test.YtagkmgdjkailkaaGreatDoorPut36
import Derived.Test.YtagkmgdjkailkaaGreatDoorPut31
namespace Go.Proofs.YtagkmgdjkailkaaGreatDoor
open Go.RowKit

theorem value_one (g q : Nat) (ev : Value) (nm : ByteArray) (n : Int) (w : World) (h : PR w g q ⟨#[]⟩ true ev false 0 true nm n) :
    Calls Tryz.prog 148 #[.pointer (some ⟨g, 0, none⟩)] w fun r w' => r = .returned (.tuple #[.agg #[.string nm, .int .i64 n], .int .i64 0]) ∧ Below w.heap.size w w' := by
  have HF := Lib.hid fun W (hb : Below w.heap.size w W) => first_one g q ev nm n 0 W (h.go hb)
  have c6 : w.cell? ⟨g, 6, none⟩ = some (.int .i64 0) := blk_cell h.pt rfl
  have hg := blk_lt h.pt
  clear h
  go_enter Tryz.func148, Tryz.ntmps148
  go_wp2_with fail
  refine (HF.out _ (oalloc _ _)).mono ?_
  rintro e w1 ⟨rfl, hb1⟩
  obtain ⟨hB1, hz1, xr⟩ := box_keep hb1
  obtain ⟨⟨u0, u1⟩, f0, f1⟩ := var2_of xr
  have HB1 := Lib.hid hB1
  clear hb1 hB1 xr
  go_wp2_with fail
  refine bodyPost_ret (v := .tuple #[.agg #[.string nm, .int .i64 n], .int .i64 0]) (by simp [results, Tryz.results148, go_sem, u0, u1]) rfl ⟨rfl, ?_⟩
  exact (HB1.out.setCell (Nat.le_refl _) _).setCell (Nat.le_refl _) _

set_option maxHeartbeats 1000000 in
/-- The number that one token is. -/
theorem number_one (gw : Nat) (v : Value) (x : Tk) (n : Int) (hk : AtomK x.k x.n x.t ⟨#[]⟩ n) (w : World) (hL : Xp.KLaid w) (h : PReads w v [x]) (hw : w.cell? ⟨gw, 1, none⟩ = some (.slice none 0 0)) :
    Calls Tryz.prog 109 #[.pointer (some ⟨gw, 0, none⟩), v] w fun r w' => r = .returned (.tuple #[.int .i64 n, .int .i64 0]) ∧ Below w.heap.size w w' := by
  obtain ⟨ad, cap, rfl, hc, hm, h⟩ := h
  obtain ⟨b, o, rfl, hb, hcell⟩ := h (by simp)
  have c := hcell 0 (by simp)
  simp only [Nat.zero_mul, Nat.add_zero, List.getElem_cons_zero] at c
  obtain ⟨c0, c1, c2, c3⟩ := c
  obtain ⟨cap, rfl⟩ : ∃ k, cap = k + 1 := ⟨cap - 1, by simp at hc; omega⟩
  have HE := Lib.hid fun W (hb' : Below w.heap.size w W) => expression_atom b o cap x.k x.n x.t ⟨#[]⟩ n hk W (KL.below hL hb') (Nat.lt_of_lt_of_le hb hb'.size) hm (by rw [hb'.cell (by exact hb)]; exact c0) (by rw [hb'.cell (by exact hb)]; exact c1) (by rw [hb'.cell (by exact hb)]; exact c2) (by rw [hb'.cell (by exact hb)]; exact c3)
  clear hL hcell h hk c0 c1 c2 c3
  simp only [List.length_singleton]
  go_enter Tryz.func109, Tryz.ntmps109
  go_wp2_with fail
  refine (HE.out _ (Below.refl _ _)).mono ?_
  rintro e w1 ⟨⟨g, q, rfl, hp1⟩, hb1⟩
  have HV := Lib.hid (value_one g q _ ⟨#[]⟩ n w1 hp1)
  have HB1 := Lib.hid hb1
  clear hb1 hp1 HE hw
  go_wp2_with (go_at_call 148; refine HV.out.mono ?_; rintro e w2 ⟨rfl, hb2⟩; have HB2 := Lib.hid (HB1.out.trans (hb2.mono HB1.out.size)); clear hb2)
  go_ret2
  exact ⟨rfl, HB2.out.alloc HB2.out.size _⟩

end Go.Proofs.YtagkmgdjkailkaaGreatDoor

namespace Go.Proofs.YtagkmgdjkailkaaGreatDoor
open Go.RowKit

/-- The work, where expr's table lies too. -/
theorem WR.c1 {w : World} {B gw : Nat} {lv : Value} {mb : Nat} {k : Int} {ps : List (Value × Int)} (h : WR w B gw lv mb k ps) : w.cell? ⟨gw, 1, none⟩ = some (.slice none 0 0) := blk_cell h.box rfl

set_option maxHeartbeats 2000000 in
theorem block_rept (gw mb : Nat) (lv : Value) (k : Int) (ps : List (Value × Int)) (m b o cap : Nat) (ad : Option Addr) (len lcap : Nat) (p0 : Int) (x : Tk) (r0 : Tk) (v1 : Value) (p1 : Int) (t1 : List Tk) (d : Int) (w : World) (B : Nat) (hB : B ≤ w.heap.size) (h : WR w B gw lv mb k ps) (hd0 : 0 ≤ d) (hd : d ≤ 5) (hX : Xp.KLaid w)
    (ht : PReads w (.slice ad len lcap) [r0, x]) (hx : AtomK x.k x.n x.t ⟨#[]⟩ m)
    (hm : m ≤ 200) (hl : ps.length + m ≤ 200) (hk0 : 0 ≤ k) (hk : k + m ≤ 4000) (hcap : 1 ≤ cap) (hmax : cap ≤ maxLen) (hbg : b ≠ gw) (hL : Line1 gw B w b o v1 p1 t1) (hp : PlainHead (headS t1)) :
    Calls Tryz.prog 75 #[.pointer (some ⟨gw, 0, none⟩), .string hdRept, .agg #[.slice ad len lcap, .int .i64 p0, .slice (some ⟨b, o, none⟩) 1 cap, .slice none 0 0, .int .i64 3], .int .i64 d] w fun r w' => r = .returned (.agg #[.int .i64 0, .int .i64 0]) ∧ (∃ lv', WR w' B gw lv' mb (k + m) (ps ++ List.replicate m (v1, p1))) ∧ Fr gw B w w' ∧ KT w w' := by
  have HBH := Lib.hid fun W (hb : Below w.heap.size w W) => behind_any (.slice ad len lcap) [r0, x] W (ht.below hb (Nat.le_refl _))
  have HNU := Lib.hid fun v W (hb : Below w.heap.size w W) (hv : PReads W v [x]) => number_one gw v x m hx W (KL.below hX hb) hv (h.go hb).c1
  have HRE := Lib.hid fun W (hb : Below w.heap.size w W) => repeat_any gw mb lv k ps m b o cap ad len lcap p0 v1 p1 t1 d W B (Nat.le_trans hB hb.size) (h.go hb) hd0 hd hm hl hk0 hk hcap hmax hbg (hL.go (Fr.below (hb.mono hB))) hp
  clear hL h hp ht hx hX
  unfold hdRept
  simp only [List.tail_cons] at HBH
  go_enter Tryz.func75, Tryz.ntmps75
  go_wp2_with fail
  refine (HBH.out _ (by go_grown)).mono ?_
  rintro e w1 ⟨⟨v', rfl, hv'⟩, hb1⟩
  have x0 : w1.heap[w.heap.size]? = some (.cells #[.slice ad len lcap, .int .i64 p0, .slice (some ⟨b, o, none⟩) 1 cap, .slice none 0 0, .int .i64 3] 153 (0, 0)) := by
    rw [hb1.block _ (by go_size), old2 _ _ (by go_size)]
    exact new_at _ _ rfl
  have x1 : w1.heap[w.heap.size + 1]? = some (.cells #[.int .i64 0, .int .i64 0] 31 (0, 0)) := by
    rw [hb1.block _ (by go_size)]
    exact new_at _ _ (by go_size)
  have hB1 : Below w.heap.size w w1 := Below.trans (by go_grown) (hb1.mono (by go_size))
  have HN1 := Lib.hid (HNU.out v' w1 hB1 (hv'.below hb1 (Nat.le_refl _)))
  obtain ⟨va, vc, hvs, _⟩ := hv'
  simp only [List.length_singleton] at hvs
  subst hvs
  have HB1 := Lib.hid hB1
  have X0 := Lib.hid x0
  have X1 := Lib.hid x1
  clear hb1 hB1 x0 x1 HBH HNU
  go_wp2_with (go_at_call 109; refine HN1.out.mono ?_; rintro e w2 ⟨rfl, hb2⟩; have hB2 := HB1.out.trans (hb2.mono HB1.out.size); have y0 := (hb2.block _ (blk_lt X0.out)).trans X0.out; have y1 := (hb2.block _ (blk_lt X1.out)).trans X1.out; have d0 : w2.cell? ⟨w.heap.size, 0, none⟩ = some (.slice ad len lcap) := blk_cell y0 rfl; have d1 : w2.cell? ⟨w.heap.size, 1, none⟩ = some (.int .i64 p0) := blk_cell y0 rfl; have d2 : w2.cell? ⟨w.heap.size, 2, none⟩ = some (.slice (some ⟨b, o, none⟩) 1 cap) := blk_cell y0 rfl; have d3 : w2.cell? ⟨w.heap.size, 3, none⟩ = some (.slice none 0 0) := blk_cell y0 rfl; have d4 : w2.cell? ⟨w.heap.size, 4, none⟩ = some (.int .i64 3) := blk_cell y0 rfl; have hz0 := blk_lt y0; have HB2 := Lib.hid hB2; have Y1 := Lib.hid y1; clear hb2 hB2 y0 y1)
  refine (HRE.out _ HB2.out).mono ?_
  rintro e w3 ⟨rfl, hw3, hf3, hk3⟩
  have y3 := hk3 _ _ _ _ Y1.out (by decide) (by decide)
  obtain ⟨⟨u0, u1⟩, f0, f1⟩ := var2_of y3
  have hz3 := blk_lt y3
  have HW3 := Lib.hid hw3
  have HF3 := Lib.hid hf3
  have HK3 := Lib.hid hk3
  have Y3 := Lib.hid y3
  clear hw3 hf3 hk3 y3 HRE d0 d1 d2 d3 d4 HN1
  go_wp2
  refine bodyPost_ret (v := .agg #[.int .i64 0, .int .i64 0]) (by simp [results, Tryz.results75, go_sem, u0, u1]) rfl ⟨rfl, ?_, ?_, ?_⟩
  · obtain ⟨lv', h2⟩ := HW3.out
    exact ⟨lv', (h2.put Y3.out (by decide) (by decide) 0 _).put (blk_set Y3.out) (by decide) (by decide) 1 _⟩
  · exact ((Fr.below (HB2.out.mono hB)).trans HF3.out).trans (Fr.below (((Below.refl _ _).setCell (by show B ≤ w.heap.size + 1; omega) _).setCell (by show B ≤ w.heap.size + 1; omega) _))
  · exact ((KT.below HB2.out).trans HK3.out).trans (KT.below ((same_set Y3.out rfl).trans (same_set (same_blk Y3.out rfl) rfl)))

end Go.Proofs.YtagkmgdjkailkaaGreatDoor

namespace Go.Proofs.YtagkmgdjkailkaaGreatDoor
open Go.RowKit

set_option maxHeartbeats 4000000 in
theorem step_rept (gw mb : Nat) (lv : Value) (k : Int) (ps : List (Value × Int)) (m b o n cap : Nat) (v0 v1 v2 : Value) (p0 p1 p2 : Int) (x r0 x2 : Tk) (t1 : List Tk) (d : Int) (w : World) (B : Nat) (hB : B ≤ w.heap.size) (h : WR w B gw lv mb k ps) (hd0 : 0 ≤ d) (hd : d ≤ 5) (hX : Xp.KLaid w)
    (hL : ∀ W, Fr gw B w W → L3 W b o v0 v1 v2 p0 p1 p2 [r0, x] t1 [x2]) (hn : n + 3 ≤ 1000) (hc : n + 3 ≤ cap) (hcm : cap ≤ maxLen) (h0 : headS [r0, x] = hdRept) (h1 : PlainHead (headS t1)) (h2 : headS [x2] = hdEndr) (hx : AtomK x.k x.n x.t ⟨#[]⟩ m)
    (hm : m ≤ 200) (hl : ps.length + m ≤ 200) (hk0 : 0 ≤ k) (hk : k + m ≤ 4000) (hbg : b ≠ gw) :
    Calls Tryz.prog 41 #[.pointer (some ⟨gw, 0, none⟩), .slice (some ⟨b, o, none⟩) (n + 3) cap, .int .i64 d] w fun r w' => r = .returned (.tuple #[.int .i64 3, .agg #[.int .i64 0, .int .i64 0]]) ∧ (∃ lv', WR w' B gw lv' mb (k + m) (ps ++ List.replicate m (v1, p1))) ∧ Fr gw B w w' ∧ KT w w' := by
  have hV := hL w (Fr.refl _ _ _)
  have HH := Lib.hid fun W (hb : Below w.heap.size w W) => head_any v0 [r0, x] W (hV.r0.below hb (Nat.le_refl _))
  have HCU := Lib.hid fun W (hb : Below w.heap.size w W) => cut_rept b o n cap v0 v1 v2 p0 p1 p2 [r0, x] t1 x2 W (hV.go hb) hn hc hcm h0 h1 h2
  obtain ⟨a0, n0, k0, rfl⟩ := hV.s0
  have HBL := Lib.hid fun W (hb : Below w.heap.size w W) => block_rept gw mb lv k ps m b (o + 2) (cap - 1) a0 n0 k0 p0 x r0 v1 p1 t1 d W B (Nat.le_trans hB hb.size) (h.go hb) hd0 hd (KL.below hX hb) (hV.r0.below hb (Nat.le_refl _)) hx hm hl hk0 hk (by omega) (by omega) hbg (fun X hF => by
    have hl3 := hL X ((Fr.below (hb.mono hB)).trans hF)
    exact ⟨hl3.lt, hl3.c1, hl3.d1, hl3.r1⟩) h1
  have hlt := hV.lt
  have c0 := hV.c0
  have d0 := hV.d0
  rw [h0] at HH
  generalize cap - 1 = c at HCU HBL
  clear hL h h0 h1 h2 hx hX hV
  unfold hdRept at *
  go_enter Tryz.func41, Tryz.ntmps41
  go_wp2_with fail
  refine (HH.out _ (by go_grown)).mono ?_
  rintro e w1 ⟨rfl, hb1⟩
  have HB1 : Hid (Below w.heap.size w w1) := by
    refine Below.trans ?_ (hb1.mono (by go_size))
    go_grown
  have x0 : w1.heap[w.heap.size]? = some (.cells #[.int .i64 0, .int .i64 0] 31 (0, 0)) := by
    rw [hb1.block _ (by go_size), old2 _ _ (by go_size)]
    exact new_at _ _ (by go_size)
  have X0 := Lib.hid x0
  clear hb1 x0 HH c0 d0
  go_wp2_with fail
  refine (HCU.out _ HB1.out).mono ?_
  rintro e w2 ⟨rfl, hb2⟩
  have HB2 := Lib.hid (HB1.out.trans (hb2.mono HB1.out.size))
  have X2 := Lib.hid ((hb2.block _ (blk_lt X0.out)).trans X0.out)
  clear hb2 HB1 X0 HCU
  go_wp2_with fail
  have hB3 : Below w.heap.size w ((w2.alloc (.cells #[.slice a0 n0 k0, .int .i64 p0, .slice (some ⟨b, o + 2, none⟩) 1 c, .slice none 0 0, .int .i64 3] 153)).alloc (.cells #[.int .i64 0, .int .i64 0] 31)) := (HB2.out.alloc HB2.out.size _).alloc (Nat.le_trans HB2.out.size (by simp)) _
  have x3 : ((w2.alloc (.cells #[.slice a0 n0 k0, .int .i64 p0, .slice (some ⟨b, o + 2, none⟩) 1 c, .slice none 0 0, .int .i64 3] 153)).alloc (.cells #[.int .i64 0, .int .i64 0] 31)).heap[w2.heap.size]? = some (.cells #[.slice a0 n0 k0, .int .i64 p0, .slice (some ⟨b, o + 2, none⟩) 1 c, .slice none 0 0, .int .i64 3] 153 (0, 0)) := by
    rw [old2 _ _ (by simp)]
    exact new_at _ _ rfl
  have y3 : ((w2.alloc (.cells #[.slice a0 n0 k0, .int .i64 p0, .slice (some ⟨b, o + 2, none⟩) 1 c, .slice none 0 0, .int .i64 3] 153)).alloc (.cells #[.int .i64 0, .int .i64 0] 31)).heap[w.heap.size]? = some (.cells #[.int .i64 0, .int .i64 0] 31 (0, 0)) := by
    have hz := blk_lt X2.out
    rw [old2 _ _ (by simp; omega), old2 _ _ hz]
    exact X2.out
  generalize (w2.alloc (.cells #[.slice a0 n0 k0, .int .i64 p0, .slice (some ⟨b, o + 2, none⟩) 1 c, .slice none 0 0, .int .i64 3] 153)).alloc (.cells #[.int .i64 0, .int .i64 0] 31) = W3 at *
  generalize w2.heap.size = g2 at *
  have d0 : W3.cell? ⟨g2, 0, none⟩ = some (.slice a0 n0 k0) := blk_cell x3 rfl
  have d1 : W3.cell? ⟨g2, 1, none⟩ = some (.int .i64 p0) := blk_cell x3 rfl
  have d2 : W3.cell? ⟨g2, 2, none⟩ = some (.slice (some ⟨b, o + 2, none⟩) 1 c) := blk_cell x3 rfl
  have d3 : W3.cell? ⟨g2, 3, none⟩ = some (.slice none 0 0) := blk_cell x3 rfl
  have d4 : W3.cell? ⟨g2, 4, none⟩ = some (.int .i64 3) := blk_cell x3 rfl
  have hz3 := blk_lt x3
  have HB3 := Lib.hid hB3
  have X3 := Lib.hid x3
  have Y3 := Lib.hid y3
  clear HB2 X2 hB3 x3 y3
  go_region_with (go_at_call 75; refine (HBL.out _ HB3.out.drew).mono ?_; rintro e w4 ⟨rfl, hw4, hf4, hk4⟩; have x4 := hk4 _ _ _ _ X3.out (by decide) (by decide); have y4 := hk4 _ _ _ _ Y3.out (by decide) (by decide); have q4 : w4.cell? ⟨g2, 4, none⟩ = some (.int .i64 3) := blk_cell x4 rfl; have hz4 := blk_lt x4; obtain ⟨⟨u0, u1⟩, f0, f1⟩ := var2_of y4; have hz5 := blk_lt y4; have HW4 := Lib.hid hw4; have HF4 := Lib.hid hf4; have HK4 := Lib.hid hk4; have Y4 := Lib.hid y4; clear hw4 hf4 hk4 x4 y4)
  all_goals
    go_wp2
    refine bodyPost_ret (v := .tuple #[.int .i64 3, .agg #[.int .i64 0, .int .i64 0]]) (by simp [results, Tryz.results41, go_sem, u0, u1]) rfl ⟨rfl, ?_, ?_, ?_⟩
    · obtain ⟨lv', h2⟩ := HW4.out
      exact ⟨lv', (h2.put Y4.out (by decide) (by decide) 0 _).put (blk_set Y4.out) (by decide) (by decide) 1 _⟩
    · exact ((Fr.below (HB3.out.drew.mono hB)).trans HF4.out).trans (Fr.below (((Below.refl _ _).setCell hB _).setCell hB _))
    · exact ((KT.below HB3.out.drew).trans HK4.out).trans (KT.below ((same_set Y4.out rfl).trans (same_set (same_blk Y4.out rfl) rfl)))

end Go.Proofs.YtagkmgdjkailkaaGreatDoor

namespace Go.Proofs.YtagkmgdjkailkaaGreatDoor
open Go.RowKit

/-- What lines are: one that stands for itself, or three that say one again and again. -/
inductive Pl where
  | one
  | rep (m : Nat)

def cksOf (f : Nat → Value × Int) : Nat → List Pl → List Ck
  | _, [] => []
  | j, .one :: r => ⟨1, 1, [f j]⟩ :: cksOf f (j + 1) r
  | j, .rep m :: r => ⟨3, 1 + m, List.replicate m (f (j + 1))⟩ :: cksOf f (j + 3) r
/-- Which lines come of them. -/
def idxOf : Nat → List Pl → List Nat
  | _, [] => []
  | j, .one :: r => j :: idxOf (j + 1) r
  | j, .rep m :: r => List.replicate m (j + 1) ++ idxOf (j + 3) r
/-- How many are looked at. -/
def lkOf : List Pl → Nat
  | [] => 0
  | .one :: r => 1 + lkOf r
  | .rep m :: r => 1 + m + lkOf r

def OneOk (ls : List Sc.Ln) (j : Nat) : Prop := ∃ l, ls[j]? = some l ∧ PlainHead (headS (l.toks.map tkOf))
def RepOk (ls : List Sc.Ln) (j m : Nat) : Prop := ∃ l0 l1 l2 r0 x x2, ls[j]? = some l0 ∧ ls[j + 1]? = some l1 ∧ ls[j + 2]? = some l2 ∧ l0.toks.map tkOf = [r0, x] ∧ headS [r0, x] = hdRept ∧ AtomK x.k x.n x.t ⟨#[]⟩ m ∧ PlainHead (headS (l1.toks.map tkOf)) ∧ l2.toks.map tkOf = [x2] ∧ headS [x2] = hdEndr
def PlOk (ls : List Sc.Ln) : Nat → List Pl → Prop
  | j, [] => j = ls.length
  | j, .one :: r => OneOk ls j ∧ PlOk ls (j + 1) r
  | j, .rep m :: r => RepOk ls j m ∧ PlOk ls (j + 3) r

theorem cks_out (f : Nat → Value × Int) : ∀ (pl : List Pl) (j : Nat), outC (cksOf f j pl) = (idxOf j pl).map f
  | [], j => rfl
  | .one :: r, j => by
    have := cks_out f r (j + 1)
    simp only [cksOf, idxOf, outC, List.flatMap_cons, List.map_cons] at this ⊢
    rw [this]
    rfl
  | .rep m :: r, j => by
    have := cks_out f r (j + 3)
    simp only [cksOf, idxOf, outC, List.flatMap_cons, List.map_append, List.map_replicate] at this ⊢
    rw [this]
theorem cks_look (f : Nat → Value × Int) : ∀ (pl : List Pl) (j : Nat), lookC (cksOf f j pl) = lkOf pl
  | [], j => rfl
  | .one :: r, j => by
    have := cks_look f r (j + 1)
    simp only [cksOf, lkOf, lookC, List.map_cons, List.sum_cons] at this ⊢
    rw [this]
  | .rep m :: r, j => by
    have := cks_look f r (j + 3)
    simp only [cksOf, lkOf, lookC, List.map_cons, List.sum_cons] at this ⊢
    rw [this]
theorem cks_pos (f : Nat → Value × Int) (ls : List Sc.Ln) : ∀ (pl : List Pl) (j : Nat), PlOk ls j pl → j + posC (cksOf f j pl) = ls.length
  | [], j, h => by simpa [cksOf, posC, PlOk] using h
  | .one :: r, j, h => by
    have := cks_pos f ls r (j + 1) h.2
    simp only [cksOf, posC, List.map_cons, List.sum_cons] at this ⊢
    omega
  | .rep m :: r, j, h => by
    have := cks_pos f ls r (j + 3) h.2
    simp only [cksOf, posC, List.map_cons, List.sum_cons] at this ⊢
    omega
theorem cks_13 (f : Nat → Value × Int) : ∀ (pl : List Pl) (j : Nat) (x : Ck), x ∈ cksOf f j pl → (x.c = 1 ∨ x.c = 3) ∧ 1 ≤ x.lk
  | [], j, x, h => by simp [cksOf] at h
  | .one :: r, j, x, h => by
    simp only [cksOf, List.mem_cons] at h
    rcases h with rfl | h
    · simp
    · exact cks_13 f r _ x h
  | .rep m :: r, j, x, h => by
    simp only [cksOf, List.mem_cons] at h
    rcases h with rfl | h
    · simp
    · exact cks_13 f r _ x h
theorem idx_lt (ls : List Sc.Ln) : ∀ (pl : List Pl) (j : Nat), PlOk ls j pl → ∀ i, i ∈ idxOf j pl → i < ls.length
  | [], j, h, i, hi => by simp [idxOf] at hi
  | .one :: r, j, h, i, hi => by
    simp only [idxOf, List.mem_cons] at hi
    rcases hi with rfl | hi
    · obtain ⟨⟨l, hl, _⟩, _⟩ := h
      exact (List.getElem?_eq_some_iff.1 hl).1
    · exact idx_lt ls r _ h.2 i hi
  | .rep m :: r, j, h, i, hi => by
    simp only [idxOf, List.mem_append] at hi
    rcases hi with hi | hi
    · obtain rfl := (List.mem_replicate.1 hi).2
      obtain ⟨⟨l0, l1, l2, r0, x, x2, _, hl, _⟩, _⟩ := h
      exact (List.getElem?_eq_some_iff.1 hl).1
    · exact idx_lt ls r _ h.2 i hi
/-- The step at a place. -/
theorem pl_at (f : Nat → Value × Int) (ls : List Sc.Ln) : ∀ (pl : List Pl) (j i : Nat), PlOk ls j pl → (h : i < (cksOf f j pl).length) →
    ((cksOf f j pl)[i] = ⟨1, 1, [f (j + posC ((cksOf f j pl).take i))]⟩ ∧ OneOk ls (j + posC ((cksOf f j pl).take i))) ∨ ∃ m, (cksOf f j pl)[i] = ⟨3, 1 + m, List.replicate m (f (j + posC ((cksOf f j pl).take i) + 1))⟩ ∧ RepOk ls (j + posC ((cksOf f j pl).take i)) m
  | [], j, i, hp, h => by simp [cksOf] at h
  | .one :: r, j, 0, hp, h => .inl ⟨by simp [cksOf, posC], by simpa [posC] using hp.1⟩
  | .rep m :: r, j, 0, hp, h => .inr ⟨m, by simp [cksOf, posC], by simpa [posC] using hp.1⟩
  | .one :: r, j, i + 1, hp, h => by
    have hi : i < (cksOf f (j + 1) r).length := by simpa [cksOf] using h
    have ih := pl_at f ls r (j + 1) i hp.2 hi
    have e : j + posC ((cksOf f j (.one :: r)).take (i + 1)) = j + 1 + posC ((cksOf f (j + 1) r).take i) := by
      simp only [cksOf, List.take_succ_cons, posC, List.map_cons, List.sum_cons]
      omega
    rw [e]
    simpa [cksOf] using ih
  | .rep m :: r, j, i + 1, hp, h => by
    have hi : i < (cksOf f (j + 3) r).length := by simpa [cksOf] using h
    have ih := pl_at f ls r (j + 3) i hp.2 hi
    have e : j + posC ((cksOf f j (.rep m :: r)).take (i + 1)) = j + 3 + posC ((cksOf f (j + 3) r).take i) := by
      simp only [cksOf, List.take_succ_cons, posC, List.map_cons, List.sum_cons]
      omega
    rw [e]
    simpa [cksOf] using ih

end Go.Proofs.YtagkmgdjkailkaaGreatDoor

namespace Go.Proofs.YtagkmgdjkailkaaGreatDoor
open Go.RowKit

theorem getD_at {ls : List Sc.Ln} {j : Nat} {l : Sc.Ln} (h : ls[j]? = some l) : ∃ hj : j < ls.length, ls[j] = l := List.getElem?_eq_some_iff.1 h

/-- Lines that Read has made, done. -/
theorem plan_do (gw mb g0 : Nat) (ls : List Sc.Ln) (pl : List Pl) (f : Nat → Value × Int) (w0 W1 : World) (hg0 : g0 = w0.heap.size) (hf : RdAt w0 W1 ls.length ls ls.length f) (hgw : gw < w0.heap.size) (h : WR W1 W1.heap.size gw (.slice none 0 0) mb 0 []) (hX : Xp.KLaid W1) (hkg : 11 < gw)
    (hpl : PlOk ls 0 pl) (hn : ls.length ≤ 1000) (ho : (idxOf 0 pl).length ≤ 200) (hk : lkOf pl ≤ 4000) :
    Calls Tryz.prog 23 #[.pointer (some ⟨gw, 0, none⟩), .slice (some ⟨g0, 0, none⟩) ls.length ls.length, .int .i64 0] W1 fun r w' => r = .returned (.agg #[.int .i64 0, .int .i64 0]) ∧ (∃ lv', WR w' W1.heap.size gw lv' mb (0 + (lkOf pl : Int)) ([] ++ (idxOf 0 pl).map f)) ∧ Fr gw W1.heap.size W1 w' ∧ KT W1 w' := by
  have hrow := hf.1
  rw [← hg0] at hrow
  have hlt := hrow.lt
  have hpos := cks_pos f ls pl 0 hpl
  rw [Nat.zero_add] at hpos
  have := do_gen gw mb (.slice none 0 0) 0 [] g0 0 ls.length (cksOf f 0 pl) 0 W1 W1.heap.size (Nat.le_refl _) h (by omega) (by omega) (by omega) (by rw [cks_look]; omega) (by omega) (by unfold maxLen; omega) (cks_13 f pl 0) hlt (by omega) (fun j hj W lv' hF hK hW => by
    have hr := hrow.keep (hF.block g0 hlt (by omega))
    have hbw : g0 < W.heap.size := hr.lt
    have hps := posC_step _ hj
    have hpt := posC_take (cksOf f 0 pl) (j + 1)
    have hls := lookC_step _ hj
    have hlt2 := lookC_take (cksOf f 0 pl) (j + 1)
    rw [cks_look] at hlt2
    have hos := outC_take (cksOf f 0 pl) (j + 1)
    rw [List.take_succ_eq_append_getElem hj, outC_snoc, List.length_append, cks_out, List.length_map] at hos
    have hrd : ∀ i (hi : i < ls.length), W.cell? ⟨g0, i * 2, none⟩ = some (f i).1 ∧ W.cell? ⟨g0, i * 2 + 1, none⟩ = some (.int .i64 (f i).2) ∧ PReads W (f i).1 (ls[i].toks.map tkOf) := fun i hi => by
      obtain ⟨a1, a2, a3⟩ := hf.2.1 i hi hi
      exact ⟨hr.cell0 hi, hr.cell1 hi, a2.fr (fun e => by have := a3 _ e; omega) hF (Nat.le_refl _)⟩
    have hat := pl_at f ls pl 0 j hpl hj
    simp only [Nat.zero_add] at hat
    generalize posC ((cksOf f 0 pl).take j) = q at *
    generalize lookC ((cksOf f 0 pl).take j) = z at *
    generalize outC ((cksOf f 0 pl).take j) = os at *
    rcases hat with ⟨e, l, hl, hh⟩ | ⟨m, e, l0, l1, l2, r0, x, x2, h0, h1, h2, ht, hhd, ha, hp1, ht2, hh2⟩
    · rw [e] at hps hls hos ⊢
      obtain ⟨hq, rfl⟩ := getD_at hl
      obtain ⟨r0, r1, r2⟩ := hrd q hq
      obtain ⟨ad, len, lcap, he⟩ := r2.shape
      rw [he] at r0 r2
      obtain ⟨n, hn'⟩ : ∃ n, posC (cksOf f 0 pl) - q = n + 1 := ⟨posC (cksOf f 0 pl) - q - 1, by simp only at hps; omega⟩
      rw [hn']
      have he2 : f q = (.slice ad len lcap, (f q).2) := by rw [← he]
      rw [he2]
      simp only [Nat.zero_add] at hos ⊢
      refine (step_any gw mb lv' (0 + z + 1) ([] ++ os) g0 (q * 2) n (ls.length - q) ad len lcap (f q).2 0 _ W W1.heap.size hF.size hW (by simp at hos ⊢; omega) r0 r1 hbw r2 hh).mono ?_
      rintro r w' ⟨rfl, k1, k2, k3⟩
      exact ⟨rfl, k1, k2, KT.of hW k3⟩
    · rw [e] at hps hls hos ⊢
      obtain ⟨hq0, rfl⟩ := getD_at h0
      obtain ⟨hq1, rfl⟩ := getD_at h1
      obtain ⟨hq2, rfl⟩ := getD_at h2
      obtain ⟨n, hn'⟩ : ∃ n, posC (cksOf f 0 pl) - q = n + 3 := ⟨posC (cksOf f 0 pl) - q - 3, by simp only at hps; omega⟩
      rw [hn']
      have hmm : m ≤ 200 := by simp at hos; omega
      simp only [Nat.zero_add] at hos hps hls ⊢
      have hL3 : ∀ X, Fr gw W1.heap.size W X → L3 X g0 (q * 2) (f q).1 (f (q + 1)).1 (f (q + 2)).1 (f q).2 (f (q + 1)).2 (f (q + 2)).2 [r0, x] (ls[q + 1].toks.map tkOf) [x2] := fun X hX => by
        have hF2 := hF.trans hX
        have hr2 := hrow.keep (hF2.block g0 hlt (by omega))
        have hrd2 : ∀ i (hi : i < ls.length), X.cell? ⟨g0, i * 2, none⟩ = some (f i).1 ∧ X.cell? ⟨g0, i * 2 + 1, none⟩ = some (.int .i64 (f i).2) ∧ PReads X (f i).1 (ls[i].toks.map tkOf) := fun i hi => by
          obtain ⟨a1, a2, a3⟩ := hf.2.1 i hi hi
          exact ⟨hr2.cell0 hi, hr2.cell1 hi, a2.fr (fun e => by have := a3 _ e; omega) hF2 (Nat.le_refl _)⟩
        obtain ⟨u0, u1, u2⟩ := hrd2 q hq0
        obtain ⟨v0, v1, v2⟩ := hrd2 (q + 1) hq1
        obtain ⟨y0, y1, y2⟩ := hrd2 (q + 2) hq2
        rw [show (q + 1) * 2 = q * 2 + 2 by omega] at v0 v1
        rw [show (q + 2) * 2 = q * 2 + 4 by omega] at y0 y1
        rw [ht] at u2
        rw [ht2] at y2
        exact ⟨hr2.lt, u2.shape, v2.shape, y2.shape, u0, u1, v0, v1, y0, y1, u2, v2, y2⟩
      have := step_rept gw mb lv' (0 + z + 1) ([] ++ os) m g0 (q * 2) n (ls.length - q) _ _ _ _ _ _ x r0 x2 _ 0 W W1.heap.size hF.size hW (by omega) (by omega) (hX.below (show Below gw W1 W from ⟨hF.os, hF.tape, hF.output, hF.size, fun i hi => hF.block i (by omega) (by omega)⟩) hkg) hL3 (by omega) (by omega) (by unfold maxLen; omega) hhd hp1 hh2 ha hmm (by simp at hos ⊢; omega) (by omega) (by omega) (by omega)
      refine this.mono ?_
      rintro r w' ⟨rfl, ⟨lv2, k1⟩, k2, k3⟩
      refine ⟨rfl, ⟨lv2, ?_⟩, k2, k3⟩
      have e9 : (0 : Int) + z + 1 + m = 0 + z + ((1 + m : Nat) : Int) := by omega
      rw [e9] at k1
      exact k1)
  rw [hpos, cks_look, cks_out] at this
  exact this

/-- The lines that come of a plan. -/
def plLines (ls : List Sc.Ln) (pl : List Pl) : List Sc.Ln := (idxOf 0 pl).map fun i => ls.getD i ⟨0, []⟩

set_option maxHeartbeats 2000000 in
theorem short_gen (v : Value) (ls : List Sc.Ln) (pl : List Pl) (w : World) (h : LIn w v ls) (hX : Xp.KLaid w) (hpl : PlOk ls 0 pl) (hn : ls.length ≤ 1000) (ho : (idxOf 0 pl).length ≤ 200) (hk : lkOf pl ≤ 4000) (hts : ∀ l, l ∈ ls → l.toks.length ≤ 100000) :
    Calls Tryz.prog 14 #[v] w fun r w' => (∃ lv, r = .returned (.tuple #[lv, .slice none 0 0, .agg #[.int .i64 0, .int .i64 0]]) ∧ LRd w' lv ((plLines ls pl).map lnOf)) ∧ Below w.heap.size w w' := by
  have hmm : ∀ w, (Instr.makeMap 70 none).run Tryz.prog w = .ok (.map (some w.heap.size)) (w.alloc (.map #[] 0)) := fun w => rfl
  obtain ⟨ad, cap, rfl, _⟩ := id h
  have HI := Lib.hid h
  have HP := Lib.hid hpl
  have HX := Lib.hid hX
  have HTS := Lib.hid hts
  clear h hpl hts hX
  go_enter Tryz.func14, Tryz.ntmps14
  go_wp2_with fail
  have hB0 : Below w.heap.size w (((w.alloc (.cells #[.int .i64 0, .int .i64 0] 31)).alloc (.map #[] 0)).alloc (.cells #[.slice none 0 0, .slice none 0 0, .map (some (w.heap.size + 1)), .int .i64 0] 72)) := by go_grown
  have hb1 : (((w.alloc (.cells #[.int .i64 0, .int .i64 0] 31)).alloc (.map #[] 0)).alloc (.cells #[.slice none 0 0, .slice none 0 0, .map (some (w.heap.size + 1)), .int .i64 0] 72)).heap[w.heap.size + 1 + 1]? = some (.cells #[.slice none 0 0, .slice none 0 0, .map (some (w.heap.size + 1)), .int .i64 0] 72 (0, 0)) := new_at _ _ (by go_size)
  have hb2 : (((w.alloc (.cells #[.int .i64 0, .int .i64 0] 31)).alloc (.map #[] 0)).alloc (.cells #[.slice none 0 0, .slice none 0 0, .map (some (w.heap.size + 1)), .int .i64 0] 72)).heap[w.heap.size + 1]? = some (.map #[] 0) := by
    rw [old2 _ _ (by go_size)]
    exact new_at _ _ (by go_size)
  have hb3 : (((w.alloc (.cells #[.int .i64 0, .int .i64 0] 31)).alloc (.map #[] 0)).alloc (.cells #[.slice none 0 0, .slice none 0 0, .map (some (w.heap.size + 1)), .int .i64 0] 72)).heap[w.heap.size]? = some (.cells #[.int .i64 0, .int .i64 0] 31 (0, 0)) := by
    rw [old2 _ _ (by go_size), old2 _ _ (by go_size)]
    exact new_at _ _ (by go_size)
  have hz0 : (((w.alloc (.cells #[.int .i64 0, .int .i64 0] 31)).alloc (.map #[] 0)).alloc (.cells #[.slice none 0 0, .slice none 0 0, .map (some (w.heap.size + 1)), .int .i64 0] 72)).heap.size = w.heap.size + 3 := by simp
  generalize (((w.alloc (.cells #[.int .i64 0, .int .i64 0] 31)).alloc (.map #[] 0)).alloc (.cells #[.slice none 0 0, .slice none 0 0, .map (some (w.heap.size + 1)), .int .i64 0] 72)) = W0 at *
  have hI0 : LIn W0 (.slice ad ls.length cap) ls := by
    obtain ⟨ad', cap', e, hh⟩ := HI.out
    refine ⟨ad', cap', e, fun h0 => ?_⟩
    obtain ⟨b, o, rfl, hlt, hc⟩ := hh h0
    refine ⟨b, o, rfl, by omega, fun i hi => ?_⟩
    obtain ⟨tv, a1, a2, a3⟩ := hc i hi
    exact ⟨tv, by rw [hB0.cell (by exact hlt)]; exact a1, by rw [hB0.cell (by exact hlt)]; exact a2, a3.below hB0 (Nat.le_refl _)⟩
  refine (read_any _ ls W0 hI0 (by omega) HTS.out).mono ?_
  rintro e W1 ⟨rfl, ⟨f, hf⟩, hB1⟩
  have hz1 : W0.heap.size < W1.heap.size := hf.1.lt
  have hW1 : WR W1 W1.heap.size (w.heap.size + 1 + 1) (.slice none 0 0) (w.heap.size + 1) 0 [] := ⟨by rw [hB1.block _ (by omega)]; exact hb1, by simpa [lnC] using World.ownsRow_nil W1 _ _ _, by rw [hB1.block _ (by omega)]; exact hb2, by omega⟩
  have HD := Lib.hid (plan_do (w.heap.size + 1 + 1) (w.heap.size + 1) W0.heap.size ls pl f W0 W1 rfl hf (by omega) hW1 (KL.below HX.out (hB0.trans (hB1.mono (by omega)))) (by have := HX.out.sz; omega) HP.out hn ho hk)
  have hil := idx_lt ls pl 0 HP.out
  have HAft : Hid (∀ W2, (∃ lv', WR W2 W1.heap.size (w.heap.size + 1 + 1) lv' (w.heap.size + 1) (0 + (lkOf pl : Int)) ([] ++ (idxOf 0 pl).map f)) → Fr (w.heap.size + 1 + 1) W1.heap.size W1 W2 →
      W2.heap[w.heap.size]? = some (.cells #[.int .i64 0, .int .i64 0] 31 (0, 0)) ∧ Below w.heap.size w W2 ∧ ∃ la lc, LRd W2 (.slice la (idxOf 0 pl).length lc) ((plLines ls pl).map lnOf) ∧ W2.heap[w.heap.size + 1 + 1]? = some (.cells #[.slice la (idxOf 0 pl).length lc, .slice none 0 0, .map (some (w.heap.size + 1)), .int .i64 (0 + (lkOf pl : Int))] 72 (0, 0))) := fun W2 hw hF => by
    obtain ⟨lv', h2⟩ := hw
    refine ⟨?_, ?_, ?_⟩
    · rw [hF.block _ (by omega) (by omega), hB1.block _ (by omega)]
      exact hb3
    · have h01 : Below w.heap.size w W1 := hB0.trans (hB1.mono (by omega))
      exact ⟨hF.os.trans h01.os, hF.tape.trans h01.tape, hF.output.trans h01.output, Nat.le_trans h01.size hF.size, fun i hi => (hF.block i (by omega) (by omega)).trans (h01.block i hi)⟩
    · have hsh := row_shape h2.row
      obtain ⟨la, lc, e⟩ := hsh
      have el : ([] ++ (idxOf 0 pl).map f).length = (idxOf 0 pl).length := by simp
      rw [el] at e
      subst e
      refine ⟨la, lc, ?_, h2.box⟩
      refine lrd_of h2.row (by simp [plLines]) fun i hi => ?_
      have hi' : i < (idxOf 0 pl).length := by simpa using hi
      have hq := hil _ (List.getElem_mem hi')
      obtain ⟨a1, a2, a3⟩ := hf.2.1 _ hq hq
      have hpr := a2.fr (fun e => by have := a3 _ e; omega) hF (Nat.le_refl _)
      simp only [List.nil_append, List.getElem_map, lnOf, plLines]
      have eg : ls.getD (idxOf 0 pl)[i] ⟨0, []⟩ = ls[(idxOf 0 pl)[i]] := by
        rw [List.getD_eq_getElem?_getD, List.getElem?_eq_getElem hq]
        rfl
      rw [eg]
      exact ⟨a1, hpr⟩
  clear hf hB1 hW1 hb1 hb2 hb3 hI0 hB0 HTS HP HI hz0 hz1 hil HX
  go_wp2_with (go_at_call 23; refine HD.out.mono ?_; rintro e W2 ⟨rfl, hw2, hf2, _⟩; obtain ⟨x0, hB2, la, lc, hLR, hbx⟩ := HAft.out W2 hw2 hf2; obtain ⟨⟨u0, u1⟩, f0, f1⟩ := var2_of x0; have hz2 := blk_lt hbx; have d0 : W2.cell? ⟨w.heap.size + 1 + 1, 0, none⟩ = some (.slice la (idxOf 0 pl).length lc) := blk_cell hbx rfl; have d1 : W2.cell? ⟨w.heap.size + 1 + 1, 1, none⟩ = some (.slice none 0 0) := blk_cell hbx rfl; have HLR := Lib.hid hLR; have HB2 := Lib.hid hB2; have X0 := Lib.hid x0; clear hLR hbx hw2 hf2 hB2 x0)
  have hzr : w.heap.size < W2.heap.size := by omega
  go_region
  all_goals
    go_wp2
    refine bodyPost_ret (v := .tuple #[.slice la (idxOf 0 pl).length lc, .slice none 0 0, .agg #[.int .i64 0, .int .i64 0]]) (by simp [results, Tryz.results14, go_sem, World.cell?_alloc_lt, hzr, u0, u1]) rfl ⟨⟨_, rfl, ?_⟩, ?_⟩
    · exact HLR.out.below (((same_set X0.out rfl).trans (same_set (same_blk X0.out rfl) rfl)).alloc (by simp) _).drew (Nat.le_refl _)
    · exact (((HB2.out.setCell (Nat.le_refl _) _).setCell (Nat.le_refl _) _).alloc (by simp; omega) _).drew

end Go.Proofs.YtagkmgdjkailkaaGreatDoor
