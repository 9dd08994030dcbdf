import Derived.Test.YtfmljailbebfgaaGreatDoorPut50
import Derived.Test.YtfmljailbebfgaaGreatDoorPut49
set_option maxHeartbeats 8000000
set_option maxRecDepth 100000
namespace Go.Proofs.YtfmljailbebfgaaGreatDoor
open Go.RowKit
def flat3 (l : List (Value × Value × Value)) : List Value := l.flatMap fun p => [p.1, p.2.1, p.2.2]
theorem qMK (l : List (Value × Value × Value)) (c s q : Value) : flat3 (l ++ [(c, s, q)]) = flat3 l ++ [c, s, q] := by simp [flat3]
theorem qIq : ∀ (l : List (Value × Value × Value)) (i : Nat) (h : i < l.length), (flat3 l)[i * 3]? = some l[i].1 /\ (flat3 l)[i * 3 + 1]? = some l[i].2.1 /\ (flat3 l)[i * 3 + 2]? = some l[i].2.2
 | p :: l, 0, _ => ⟨rfl, rfl, rfl⟩
 | p :: l, i + 1, h => by
   have := qIq l i (by simpa using h)
   rw [show (i + 1) * 3 = i * 3 + 3 by omega]
   exact this
def ORow (W : World) (B : Nat) (v : Value) (obs : List Ob) : Prop :=
 ∃ l : List (Value × Value × Value), l.length = obs.length /\ SR W B 51 3 v obs.length (flat3 l) /\ ∀ i (h : i < l.length) (h' : i < obs.length), qBg W l[i].1 l[i].2.1 l[i].2.2 obs[i]
theorem ORow.nil (W : World) (B : Nat) : ORow W B (.slice none 0 0) [] := ⟨[], rfl, SR.nil W B _ 3, fun i h => by simp at h⟩
theorem ORow.below {W W' : World} {B : Nat} {v : Value} {obs : List Ob} (h : ORow W B v obs) (hb : Below W.heap.size W W') : ORow W' B v obs := by
 obtain ⟨l, h1, h2, h3⟩ := h
 exact ⟨l, h1, h2.below hb, fun i hi hi' => (qBE.below hb).obj (h3 i hi hi')⟩
theorem ORow.obs {W : World} {B : Nat} {v : Value} {obs : List Ob} (h : ORow W B v obs) (hn : obs.length <= 1000) : Li.OObs W v obs := by
 obtain ⟨l, h1, h2, h3⟩ := h
 rcases h2.own.2 with ⟨rfl, h0⟩ | ⟨g, cap, cur, rfl, _, hg, _⟩
 ·exact ⟨none, 0, by rw [h0], by unfold maxLen; omega, fun h => by omega⟩
 ·refine ⟨_, cap, rfl, by unfold maxLen; omega, fun _ => ⟨g, 0, rfl, qC hg, fun i hi => ?_⟩⟩
  obtain ⟨k0, k1, k2⟩ := qIq l i (by omega)
  have hc : ∀ j u, (flat3 l)[j]? = some u -> W.cell? ⟨g, 0 + j, none⟩ = some u := fun j u hj => by
   have := h2.own.cells (g := g) rfl j u hj
   have hadd : (⟨g, 0, none⟩ : Addr).add j = ⟨g, 0 + j, none⟩ := by unfold Addr.add; split <;> simp_all
   rwa [hadd] at this
  exact ⟨_, _, _, hc _ _ k0, by rw [Nat.add_assoc]; exact hc _ _ k1, by rw [Nat.add_assoc]; exact hc _ _ k2, h3 i (by omega) hi⟩
theorem zero_obj : qBj (Value.agg #[.slice none 0 0, .slice none 0 0, .slice none 0 0]).cells := by
 intro j u h
 rcases j with _ | _ | _ | j <;> simp [Value.cells] at h <;> exact ⟨none, 0, 0, h.symm⟩
theorem three_sl (ca sa qa : Option Addr) (cl cc sl sc ql qc : Nat) : qBj #[.slice ca cl cc, .slice sa sl sc, .slice qa ql qc] := by
 intro j u h
 rcases j with _ | _ | _ | j <;> simp at h <;> exact ⟨_, _, _, h.symm⟩
theorem ORow.app {W : World} {B : Nat} {v : Value} {obs : List Ob} (h : ORow W B v obs) (hB : B <= W.heap.size) (hn : obs.length <= 1000) (g : Nat) (ca sa qa : Option Addr) (cl cc sl sc ql qc : Nat) (hg : W.heap[g]? = some (.cells #[.slice ca cl cc, .slice sa sl sc, .slice qa ql qc] 51 (0, 0))) (ob : Ob) (ho : qBg W (.slice ca cl cc) (.slice sa sl sc) (.slice qa ql qc) ob) :
  ∃ la lc w', (∀ ty, (Builtin.append_ #[66, 66] ty #[v, .slice (some ⟨g, 0, none⟩) 1 1]).run Tryz.prog W = .ok (.slice la (obs.length + 1) lc) w') /\ ORow w' B (.slice la (obs.length + 1) lc) (obs ++ [ob]) /\ Below B W w' := by
 obtain ⟨l, h1, h2, h3⟩ := h
 obtain ⟨la, lc, w', hr, hs, hbl, hk⟩ := app_sl 66 51 _ 3 72 Tryz.underlying66 infoOb rfl (by decide) (by decide) zero_obj h2 hB [.slice ca cl cc, .slice sa sl sc, .slice qa ql qc] rfl g hg (three_sl _ _ _ _ _ _ _ _ _) (by omega)
 refine ⟨la, lc, w', hr, ⟨l ++ [(.slice ca cl cc, .slice sa sl sc, .slice qa ql qc)], by simp [h1], by rw [qMK, List.length_append]; exact hs, fun i hi hi' => ?_⟩, hbl⟩
 by_cases hl : i < l.length
 ·rw [List.getElem_append_left hl, List.getElem_append_left (by omega)]
  exact hk.obj (h3 i hl (by omega))
 ·have e : i = l.length := by simp at hi; omega
  subst e
  rw [List.getElem_append_right (Nat.le_refl _), List.getElem_append_right (by omega)]
  simp only [Nat.sub_self, List.getElem_cons_zero, h1]
  exact hk.obj ho
theorem qJO (obs : List Ob) (base : Int) (code : List UInt8) (sy : List Sy) (hn : obs.length <= 4) (hlk : Li.qCJ qO obs base = .ok (code, sy)) (f gl : Nat) (w : World) (hnl : ∀ o, o ∈ obs -> ∀ x, x ∈ o.syms -> x.name.length <= maxLen) (hent : ∀ args w, (callFunc f args).run Tryz.prog w = .ok (.enter f args) w)
  (hob : ∀ k (h : k < obs.length) W, Below w.heap.size w W -> Calls Tryz.prog f #[.int .i64 (k : Int), .pointer (some ⟨gl, 0, none⟩)] W (ObTo obs[k] W)) :
  Calls Tryz.prog 14 #[.int .i64 obs.length, .int .i64 base, .func (.func f) #[] #[.pointer (some ⟨gl, 0, none⟩)]] w (ImgTo base code sy w) := by
 have HLL := Lib.hid hlk
 clear hlk
 have HOB := Lib.hid hob
 have HNL := Lib.hid hnl
 clear hob hnl
 go_enter Tryz.func14, Tryz.ntmps14
 go_wp2_with fail
 obtain ⟨W0, hW0⟩ : ∃ W, W = (w.alloc (.cells #[.int .i64 0, .slice none 0 0, .slice none 0 0] 36)).alloc (.cells #[.int .i64 0, .int .i64 0] 38) := ⟨_, rfl⟩
 have hb0 : Below w.heap.size w W0 := by rw [hW0]; go_grown
 have hz0 : W0.heap.size = w.heap.size + 2 := by rw [hW0]; simp
 have hx0 : W0.heap[w.heap.size]? = some (.cells #[.int .i64 0, .slice none 0 0, .slice none 0 0] 36 (0, 0)) := by rw [hW0, old2 _ _ (by simp)]; exact qH _ _ rfl
 have hx1 : W0.heap[w.heap.size + 1]? = some (.cells #[.int .i64 0, .int .i64 0] 38 (0, 0)) := by rw [hW0]; exact qH _ _ (by simp)
 rw [<- hW0]
 clear hW0
 have HB0 := Lib.hid hb0
 have HZ0 := Lib.hid hz0
 have HX0 := Lib.hid hx0
 have HX1 := Lib.hid hx1
 have HN := Lib.hid hn
 clear hb0 hz0 hx0 hx1 hn
 go_loopw [8, 13] (fun ov kv wr => ∃ (k : Nat) (oa : Option Addr) (oc : Nat), k <= obs.length /\ kv = .int .i64 k /\ ov = .slice oa k oc /\ Hid (ORow wr W0.heap.size (.slice oa k oc) (obs.take k)) /\ Hid (Below W0.heap.size W0 wr)) (fun _ kv _ => obs.length - (intOf kv).toNat)
 case atStart => exact ⟨0, none, 0, Nat.zero_le _, rfl, rfl, ORow.nil _ _, Below.refl _ _⟩
 case round =>
  obtain ⟨k, oa, oc, hk, rfl, rfl, HR, HB⟩ := hrel
  by_cases hlt : k < obs.length
  ·have hk' : (k : Int) < obs.length := by omega
   have hk4 : (k : Int) <= 4 := by have := HN.out; omega
   have HC := Lib.hid (HOB.out k hlt)
   go_wp2_with fail
   have hbr : Below w.heap.size w wr := HB0.out.trans (HB.out.mono HB0.out.size)
   refine (HC.out _ hbr).mono ?_
   rintro e w1 ⟨⟨ca, cl, cc, sa, sl, sc, qa, ql, qc, rfl, hob⟩, hb1⟩
   have hlk : (obs.take k).length = k := by rw [List.length_take]; omega
   have hb1' : Below wr.heap.size wr ((w1.alloc (.cells #[.slice ca cl cc, .slice sa sl sc, .slice qa ql qc] 51)).alloc (.cells #[.slice ca cl cc, .slice sa sl sc, .slice qa ql qc] 51)) := (hb1.alloc hb1.size _).alloc (by have := hb1.size; simp; omega) _
   have hb1w : Below w1.heap.size w1 ((w1.alloc (.cells #[.slice ca cl cc, .slice sa sl sc, .slice qa ql qc] 51)).alloc (.cells #[.slice ca cl cc, .slice sa sl sc, .slice qa ql qc] 51)) := by go_grown
   obtain ⟨la, lc, w2, happ, hr2, hb2⟩ := (HR.out.below hb1').app (Nat.le_trans HB.out.size hb1'.size) (by omega) (w1.heap.size + 1) ca sa qa cl cc sl sc ql qc (qH _ _ (by simp)) obs[k] ((qBE.below hb1w).obj hob)
   rw [hlk] at happ hr2
   have ht : obs.take (k + 1) = obs.take k ++ [obs[k]] := List.take_succ_eq_append_getElem hlt
   have HR2 : Hid (ORow w2 W0.heap.size (.slice la (k + 1) lc) (obs.take (k + 1))) := by rw [ht]; exact hr2
   have HB2 : Hid (Below W0.heap.size W0 w2) := (HB.out.trans (hb1'.mono HB.out.size)).trans hb2
   have HA := Lib.hid happ
   clear hbr hob hb1 hb1' hb1w happ hr2 hb2 ht hlk HC HR
   go_wp2_with (first | (at_builtin; refine qAL rfl _ _ _ _ rfl _ _ rfl rfl HA.out ?_))
   exact ⟨⟨k + 1, la, lc, hlt, by go_num, rfl, HR2, HB2⟩, by simp [intOf]; omega⟩
  ·obtain rfl : k = obs.length := by omega
   have hk' : ¬ ((obs.length : Nat) : Int) < obs.length := by omega
   have HO : Hid (Li.OObs wr (.slice oa obs.length oc) obs) := by
    have := HR.out
    rw [List.take_length] at this
    exact this.obs (by have := HN.out; omega)
   have HLK := Lib.hid (Li.link_any obs (.slice oa obs.length oc) base wr HO.out HNL.out)
   have HW2 : Hid (Below w.heap.size w wr) := HB0.out.trans (HB.out.mono HB0.out.size)
   have HX0' : Hid (wr.heap[w.heap.size]? = some (.cells #[.int .i64 0, .slice none 0 0, .slice none 0 0] 36 (0, 0))) := (HB.out.block _ (qC HX0.out)).trans HX0.out
   have HX1' : Hid (wr.heap[w.heap.size + 1]? = some (.cells #[.int .i64 0, .int .i64 0] 38 (0, 0))) := (HB.out.block _ (qC HX1.out)).trans HX1.out
   clear HX0 HX1 HO HR
   have HX0 := HX0'
   have HX1 := HX1'
   clear HX0' HX1'
   go_wp2_with fail
   refine HLK.out.mono ?_
   rintro e w3 ⟨hb3, hm⟩
   rw [HLL.out] at hm
   obtain ⟨bv, sv, rfl, h1, h2⟩ := hm
   simp only at h1 h2
   obtain ⟨ba, bc, rfl, _⟩ := id h1
   obtain ⟨s0, s2, rfl, _⟩ := id h2
   have z0 := (hb3.block _ (qC HX0.out)).trans HX0.out
   have z1 := (hb3.block _ (qC HX1.out)).trans HX1.out
   have g0 : w3.cell? ⟨w.heap.size, 0, none⟩ = some (.int .i64 0) := qB z0 rfl
   have g1 : w3.cell? ⟨w.heap.size, 1, none⟩ = some (.slice none 0 0) := qB z0 rfl
   have g2 : w3.cell? ⟨w.heap.size, 2, none⟩ = some (.slice none 0 0) := qB z0 rfl
   have q0 : w3.frozen? ⟨w.heap.size, 0, none⟩ = false := qE z0
   have q1 : w3.frozen? ⟨w.heap.size, 1, none⟩ = false := qE z0
   have q2 : w3.frozen? ⟨w.heap.size, 2, none⟩ = false := qE z0
   have f0 : w3.cell? ⟨w.heap.size + 1, 0, none⟩ = some (.int .i64 0) := qB z1 rfl
   have f1 : w3.cell? ⟨w.heap.size + 1, 1, none⟩ = some (.int .i64 0) := qB z1 rfl
   have y0 : w3.frozen? ⟨w.heap.size + 1, 0, none⟩ = false := qE z1
   have y1 : w3.frozen? ⟨w.heap.size + 1, 1, none⟩ = false := qE z1
   have hz0 := qC z0
   have hz1 := qC z1
   have H1 := Lib.hid h1
   have H2 := Lib.hid h2
   have Z0 := Lib.hid z0
   have Z1 := Lib.hid z1
   have HB3 := Lib.hid (HW2.out.trans (hb3.mono HW2.out.size))
   clear hb3 h1 h2 z0 z1 HLK HX0 HX1 HLL
   go_wp2_with fail
   have n3 : ∀ (a : Int) (x y : Option Addr) (b c d e : Nat) (j : Nat) (n : Int), (#[Value.int .i64 a, .slice x b c, .slice y d e] : Array Value)[j]? ≠ some (.int .u8 n) := by
    intro a x y b c d e j n h
    rcases j with _ | _ | _ | j <;> simp at h
   have m3 : ∀ (a : Int) (x y : Option Addr) (b c d e : Nat) (j : Nat) (n : ByteArray), (#[Value.int .i64 a, .slice x b c, .slice y d e] : Array Value)[j]? ≠ some (.string n) := by
    intro a x y b c d e j n h
    rcases j with _ | _ | _ | j <;> simp at h
   have n2 : ∀ (a b : Int) (j : Nat) (n : Int), (#[Value.int .i64 a, .int .i64 b] : Array Value)[j]? ≠ some (.int .u8 n) := by
    intro a b j n h
    rcases j with _ | _ | j <;> simp at h
   have m2 : ∀ (a b : Int) (j : Nat) (n : ByteArray), (#[Value.int .i64 a, .int .i64 b] : Array Value)[j]? ≠ some (.string n) := by
    intro a b j n h
    rcases j with _ | _ | j <;> simp at h
   have t1 := qP (i := 0) (v := .int .i64 base) Z0.out
   have t2 := qP (i := 1) (v := .slice ba code.length bc) t1
   have t3 := qP (i := 2) (v := .slice s0 sy.length s2) t2
   have b1 := H1.out.set (i := 0) (v := .int .i64 base) Z0.out (n3 _ _ _ _ _ _ _)
   have b2 := b1.set (i := 1) (v := .slice ba code.length bc) t1 (n3 _ _ _ _ _ _ _)
   have b3 := b2.set (i := 2) (v := .slice s0 sy.length s2) t2 (n3 _ _ _ _ _ _ _)
   have c1 := H2.out.set (i := 0) (v := .int .i64 base) Z0.out (m3 _ _ _ _ _ _ _)
   have c2 := c1.set (i := 1) (v := .slice ba code.length bc) t1 (m3 _ _ _ _ _ _ _)
   have c3 := c2.set (i := 2) (v := .slice s0 sy.length s2) t2 (m3 _ _ _ _ _ _ _)
   have u0 : (((w3.setCell ⟨w.heap.size, 0, none⟩ (.int .i64 base)).setCell ⟨w.heap.size, 1, none⟩ (.slice ba code.length bc)).setCell ⟨w.heap.size, 2, none⟩ (.slice s0 sy.length s2)).heap[w.heap.size + 1]? = some (.cells #[.int .i64 0, .int .i64 0] 38 (0, 0)) := by
    rw [Below.heap_setCell _ _ _ _ (by show w.heap.size + 1 ≠ w.heap.size; omega), Below.heap_setCell _ _ _ _ (by show w.heap.size + 1 ≠ w.heap.size; omega), Below.heap_setCell _ _ _ _ (by show w.heap.size + 1 ≠ w.heap.size; omega)]
    exact Z1.out
   have u1 := qP (i := 0) (v := .int .i64 0) u0
   have b4 := b3.set (i := 0) (v := .int .i64 0) u0 (n2 _ _)
   have b5 := b4.set (i := 1) (v := .int .i64 0) u1 (n2 _ _)
   have c4 := c3.set (i := 0) (v := .int .i64 0) u0 (m2 _ _)
   have c5 := c4.set (i := 1) (v := .int .i64 0) u1 (m2 _ _)
   refine bodyPost_ret (v := .tuple #[.agg #[.int .i64 base, .slice ba code.length bc, .slice s0 sy.length s2], .agg #[.int .i64 0, .int .i64 0]]) (by simp [results, Tryz.results14, go_sem, g0, g1, g2, f0, f1]) rfl ⟨⟨ba, bc, s0, s2, rfl, b5, c5⟩, ?_⟩
   have hB := HB3.out
   exact ((((hB.setCell (p := ⟨w.heap.size, 0, none⟩) (Nat.le_refl _) _).setCell (p := ⟨w.heap.size, 1, none⟩) (Nat.le_refl _) _).setCell (p := ⟨w.heap.size, 2, none⟩) (Nat.le_refl _) _).setCell (p := ⟨w.heap.size + 1, 0, none⟩) (by show w.heap.size <= w.heap.size + 1; omega) _).setCell (p := ⟨w.heap.size + 1, 1, none⟩) (by show w.heap.size <= w.heap.size + 1; omega) _
structure qLu (us : List (List UInt8 × Ob)) (base : Int) (code : List UInt8) (sy : List Sy) (tl : List Int) (w : World) : Prop where
 un : ∀ u, u ∈ us -> ∀ W v, Below w.heap.size w W -> Sc.qA7 W v u.1 -> qDt v u.2 W
 wr : ∀ u, u ∈ us -> qAD qO u.2 = 0
 nl : ∀ u, u ∈ us -> ∀ x, x ∈ u.2.syms -> x.name.length <= maxLen
 lk : Li.qCJ qO (us.map (·.2)) base = .ok (code, sy)
 rn : Si.runE 2000 (Si.newM base code) = 0 /\ (Si.runM 2000 (Si.newM base code)).told = tl /\ ∀ M, Si.Rch (Si.newM base code) M -> Si.ResM M
 b0 : 0 <= base
 b1 : base <= 1048576
 cl : code.length <= 1048576
 sl : sy.length <= 1000
 ss : ∀ u, u ∈ us -> u.1.length <= 1000000
 n0 : 0 < us.length
 n : us.length <= 4
def BRow (W : World) (B : Nat) (v : Value) (bs : List (List UInt8)) : Prop :=
 ∃ l : List Value, l.length = bs.length /\ SR W B 33 1 v bs.length l /\ ∀ i (h : i < l.length) (h' : i < bs.length), Sc.qA7 W l[i] bs[i]
theorem BRow.nil (W : World) (B : Nat) : BRow W B (.slice none 0 0) [] := ⟨[], rfl, SR.nil W B _ 1, fun i h => by simp at h⟩
theorem BRow.below {W W' : World} {B : Nat} {v : Value} {bs : List (List UInt8)} (h : BRow W B v bs) (hb : Below W.heap.size W W') : BRow W' B v bs := by
 obtain ⟨l, h1, h2, h3⟩ := h
 exact ⟨l, h1, h2.below hb, fun i hi hi' => (qBE.below hb).breads (h3 i hi hi')⟩
theorem one_sl (ca : Option Addr) (cl cc : Nat) : qBj #[.slice ca cl cc] := by
 intro j u h
 rcases j with _ | j <;> simp at h
 exact ⟨_, _, _, h.symm⟩
theorem BRow.app {W : World} {B : Nat} {v : Value} {bs : List (List UInt8)} (h : BRow W B v bs) (hB : B <= W.heap.size) (hn : bs.length <= 1000) (g : Nat) (ca : Option Addr) (cl cc : Nat) (hg : W.heap[g]? = some (.cells #[.slice ca cl cc] 33 (0, 0))) (S : List UInt8) (ho : Sc.qA7 W (.slice ca cl cc) S) :
  ∃ la lc w', (∀ ty, (Builtin.append_ #[32, 32] ty #[v, .slice (some ⟨g, 0, none⟩) 1 1]).run Tryz.prog W = .ok (.slice la (bs.length + 1) lc) w') /\ BRow w' B (.slice la (bs.length + 1) lc) (bs ++ [S]) /\ Below B W w' := by
 obtain ⟨l, h1, h2, h3⟩ := h
 obtain ⟨la, lc, w', hr, hs, hbl, hk⟩ := app_sl 32 33 _ 1 24 Tryz.underlying32 infoBy rfl (by decide) (by decide) (one_sl none 0 0) h2 hB [.slice ca cl cc] rfl g hg (one_sl _ _ _) (by omega)
 refine ⟨la, lc, w', hr, ⟨l ++ [.slice ca cl cc], by simp [h1], by rw [List.length_append]; exact hs, fun i hi hi' => ?_⟩, hbl⟩
 by_cases hl : i < l.length
 ·rw [List.getElem_append_left hl, List.getElem_append_left (by omega)]
  exact hk.breads (h3 i hl (by omega))
 ·have e : i = l.length := by simp at hi; omega
  subst e
  rw [List.getElem_append_right (Nat.le_refl _), List.getElem_append_right (by omega)]
  simp only [Nat.sub_self, List.getElem_cons_zero, h1]
  exact hk.breads ho
theorem BRow.at_ {W : World} {B : Nat} {v : Value} {bs : List (List UInt8)} (h : BRow W B v bs) (h0 : 0 < bs.length) : ∃ b c cur n, n = bs.length /\ v = .slice (some ⟨b, 0, none⟩) n c /\ W.heap[b]? = some (.cells cur 33 (0, 0)) /\ ∀ k (hk : k < bs.length), ∃ va vl vc, cur[k]? = some (.slice va vl vc) /\ Sc.qA7 W (.slice va vl vc) bs[k] := by
 obtain ⟨l, h1, h2, h3⟩ := h
 rcases h2.own.2 with ⟨_, h5⟩ | ⟨g, cap, cur, rfl, _, hg, _, _, _, htk⟩
 ·omega
 ·refine ⟨g, cap, cur, _, rfl, rfl, hg, fun k hk => ?_⟩
  have hr := h3 k (by omega) hk
  have hc : cur[k]? = some l[k] := by
   have e := congrArg (fun l => l[k]?) htk
   simp only [List.getElem?_take] at e
   rw [if_pos (by omega), List.getElem?_eq_getElem (show k < l.length by omega)] at e
   simpa using e
  obtain ⟨ad, cp, e0, _⟩ := id hr
  rw [e0] at hr hc
  exact ⟨_, _, _, hc, hr⟩
theorem qKz (us : List (List UInt8 × Ob)) (base : Int) (code : List UInt8) (sy : List Sy) (tl : List Int) (v : Value) (B : Nat) (w w0 : World) (hS : qLu us base code sy tl w0) (h0 : Below w0.heap.size w0 w) (hv : BRow w B v (us.map (·.1))) :
  Calls Tryz.prog 10 #[v, .int .i64 base] w (ImgTo base code sy w) := by
 have hn0 := hS.n0
 obtain ⟨b, c, cur, n, hn, rfl, hb, hat⟩ := hv.at_ (by simpa using hn0)
 rw [List.length_map] at hn
 subst hn
 have HL : Hid (∀ W, Below w.heap.size w W -> W.heap[w.heap.size]? = some (.cells #[.slice (some ⟨b, 0, none⟩) us.length c] 32 (0, 0)) -> Calls Tryz.prog 14 #[.int .i64 us.length, .int .i64 base, .func (.func 15) #[] #[.pointer (some ⟨w.heap.size, 0, none⟩)]] W (ImgTo base code sy W)) := by
  intro W hW hg
  have := qJO (us.map (·.2)) base code sy (by have := hS.n; simpa using this) hS.lk 15 w.heap.size W (fun o ho x hx => by obtain ⟨u, hu, rfl⟩ := List.mem_map.1 ho; exact hS.nl u hu x hx) qLt (fun k hk X hX => by
   have hk' : k < us.length := by simpa using hk
   have hwX : Below w.heap.size w X := hW.trans (hX.mono hW.size)
   obtain ⟨va, vl, vc, hck, hbr⟩ := hat k (by simpa using hk')
   have hmem : us[k] ∈ us := List.getElem_mem _
   rw [List.getElem_map] at hbr ⊢
   exact qKF w.heap.size b us.length c k cur va vl vc us[k].2 X ((hX.block _ (qC hg)).trans hg) ((hwX.block _ (qC hb)).trans hb) hk' hck (fun Y hY => hS.un _ hmem Y _ (h0.trans ((hwX.trans (hY.mono hwX.size)).mono h0.size)) (qGa hbr (hwX.trans (hY.mono hwX.size)))) (fun Y c s q h => qJy (hS.wr _ hmem) (hS.nl _ hmem) Y c s q h))
  simpa using this
 have zb := qC hb
 clear hS h0 hv hb hat
 go_enter Tryz.func10, Tryz.ntmps10
 go_wp2_with fail
 have hb0 : Below w.heap.size w (((w.alloc (.cells #[.slice (some ⟨b, 0, none⟩) us.length c] 32)).alloc (.cells #[.int .i64 0, .slice none 0 0, .slice none 0 0] 36)).alloc (.cells #[.int .i64 0, .int .i64 0] 38)) := by go_grown
 refine (HL.out _ hb0 (by rw [old2 _ _ (by go_size), old2 _ _ (by simp)]; exact qH _ _ rfl)).mono ?_
 rintro e w3 ⟨⟨ba, bc, s0, s2, rfl, h1, h2⟩, hb3⟩
 have z0 : w3.heap[w.heap.size + 1]? = some (.cells #[.int .i64 0, .slice none 0 0, .slice none 0 0] 36 (0, 0)) := by
  rw [hb3.block _ (by simp), old2 _ _ (by simp)]
  exact qH _ _ (by simp)
 have z1 : w3.heap[w.heap.size + 1 + 1]? = some (.cells #[.int .i64 0, .int .i64 0] 38 (0, 0)) := by
  rw [hb3.block _ (by simp)]
  exact qH _ _ (by simp)
 have g0 : w3.cell? ⟨w.heap.size + 1, 0, none⟩ = some (.int .i64 0) := qB z0 rfl
 have g1 : w3.cell? ⟨w.heap.size + 1, 1, none⟩ = some (.slice none 0 0) := qB z0 rfl
 have g2 : w3.cell? ⟨w.heap.size + 1, 2, none⟩ = some (.slice none 0 0) := qB z0 rfl
 have q0 : w3.frozen? ⟨w.heap.size + 1, 0, none⟩ = false := qE z0
 have q1 : w3.frozen? ⟨w.heap.size + 1, 1, none⟩ = false := qE z0
 have q2 : w3.frozen? ⟨w.heap.size + 1, 2, none⟩ = false := qE z0
 have f0 : w3.cell? ⟨w.heap.size + 1 + 1, 0, none⟩ = some (.int .i64 0) := qB z1 rfl
 have f1 : w3.cell? ⟨w.heap.size + 1 + 1, 1, none⟩ = some (.int .i64 0) := qB z1 rfl
 have y0 : w3.frozen? ⟨w.heap.size + 1 + 1, 0, none⟩ = false := qE z1
 have y1 : w3.frozen? ⟨w.heap.size + 1 + 1, 1, none⟩ = false := qE z1
 have hz0 := qC z0
 have hz1 := qC z1
 have HS := Lib.hid (qJD (gi := w.heap.size + 1) (gf := w.heap.size + 1 + 1) (by omega) (base := base) z0 z1 h1 h2)
 have HB3 := Lib.hid (hb0.trans (hb3.mono hb0.size))
 clear hb3 h1 h2 z0 z1 hb0 HL
 go_wp2_with fail
 refine bodyPost_ret (v := .tuple #[.agg #[.int .i64 base, .slice ba code.length bc, .slice s0 sy.length s2], .agg #[.int .i64 0, .int .i64 0]]) (by simp [results, Tryz.results10, go_sem, g0, g1, g2, f0, f1]) rfl ⟨⟨ba, bc, s0, s2, rfl, HS.out.1, HS.out.2⟩, ?_⟩
 have hB := HB3.out
 exact ((((hB.setCell (p := ⟨w.heap.size + 1, 0, none⟩) (by show w.heap.size <= w.heap.size + 1; omega) _).setCell (p := ⟨w.heap.size + 1, 1, none⟩) (by show w.heap.size <= w.heap.size + 1; omega) _).setCell (p := ⟨w.heap.size + 1, 2, none⟩) (by show w.heap.size <= w.heap.size + 1; omega) _).setCell (p := ⟨w.heap.size + 1 + 1, 0, none⟩) (by show w.heap.size <= w.heap.size + 1 + 1; omega) _).setCell (p := ⟨w.heap.size + 1 + 1, 1, none⟩) (by show w.heap.size <= w.heap.size + 1 + 1; omega) _
def strC (us : List (List UInt8 × Ob)) : Array Value := (us.map fun u => Value.string ⟨u.1.toArray⟩).toArray
theorem qI6 (W : World) (S : List UInt8) (hS : S.length <= 1000000) : Below W.heap.size W (Lib.bytesWorld W 5 ⟨S.toArray⟩) /\ Sc.qA7 (Lib.bytesWorld W 5 ⟨S.toArray⟩) (.slice (some ⟨W.heap.size, 0, none⟩) S.length (grownCap W S.length 0 5)) S := by
 refine ⟨Lib.bytesWorld_below _ _ _, _, _, rfl, by unfold maxLen; omega, fun _ => ⟨_, _, rfl, by rw [Lib.bytesWorld_size]; omega, fun i hi => ?_⟩⟩
 rw [Nat.zero_add, Lib.bytesWorld_cell _ _ _ _ (by simpa [ByteArray.size] using hi)]
 simp [List.getD, hi]
theorem qFc (us : List (List UInt8 × Ob)) (base : Int) (code : List UInt8) (sy : List Sy) (tl : List Int) (lb lc : Nat) (w : World) (hS : qLu us base code sy tl w) (hL : Isa.Laid w) (hs : w.heap[lb]? = some (.cells (strC us) 9 (0, 0))) :
  Calls Tryz.prog 8 #[.int .i64 base, .slice (some ⟨lb, 0, none⟩) us.length lc] w fun e w' => (∃ ta tc, e = .returned (.tuple #[.slice ta tl.length tc, .int .i64 0]) /\ Si.TRd w' ta tl) /\ Below w.heap.size w w' := by
 have HS := Lib.hid hS
 have HL := Lib.hid hL
 have HST := Lib.hid hs
 have zl := qC hs
 clear hS hL hs
 go_enter Tryz.func8, Tryz.ntmps8
 go_wp2_with fail
 go_loopw [6, 15] (fun bv kv wr => ∃ (k : Nat) (oa : Option Addr) (oc : Nat), k <= us.length /\ kv = .int .i64 k /\ bv = .slice oa k oc /\ Hid (BRow wr w.heap.size (.slice oa k oc) ((us.take k).map (·.1))) /\ Hid (Below w.heap.size w wr)) (fun _ kv _ => us.length - (intOf kv).toNat)
 case atStart => exact ⟨0, none, 0, Nat.zero_le _, rfl, rfl, BRow.nil _ _, Below.refl _ _⟩
 case round =>
  obtain ⟨k, oa, oc, hk, rfl, rfl, HR, HB⟩ := hrel
  by_cases hlt : k < us.length
  ·have hk' : (k : Int) < us.length := by omega
   have hk4 : (k : Int) <= 4 := by have := HS.out.n; omega
   obtain ⟨S, hSe⟩ : ∃ S, us[k].1 = S := ⟨_, rfl⟩
   have hSl : S.length <= 1000000 := by rw [<- hSe]; exact HS.out.ss _ (List.getElem_mem _)
   have r0 : wr.cell? ⟨lb, k, none⟩ = some (.string ⟨S.toArray⟩) := by
    rw [HB.out.cell (by exact zl)]
    refine qB HST.out ?_
    simp [strC, hlt, hSe]
   have zl' : lb < wr.heap.size := Nat.lt_of_lt_of_le zl HB.out.size
   have hcv := fun W => Lib.run_convert_string_bytes (P := Tryz.prog) W 9 33 5 ⟨S.toArray⟩ Tryz.underlying9 Tryz.underlying33 Tryz.underlying5
   obtain ⟨hbW, hbr⟩ := qI6 wr S hSl
   have hbA := qD (Lib.bytesWorld wr 5 ⟨S.toArray⟩) (.cells #[.slice (some ⟨wr.heap.size, 0, none⟩) S.length (grownCap wr S.length 0 5)] 33)
   have hlk : ((us.take k).map (·.1)).length = k := by rw [List.length_map, List.length_take]; omega
   have hbB : Below wr.heap.size wr ((Lib.bytesWorld wr 5 ⟨S.toArray⟩).alloc (.cells #[.slice (some ⟨wr.heap.size, 0, none⟩) S.length (grownCap wr S.length 0 5)] 33)) := hbW.trans (hbA.mono hbW.size)
   obtain ⟨la, lc', w2, happ, hr2, hb2⟩ := (HR.out.below hbB).app (Nat.le_trans HB.out.size hbB.size) (by omega) (Lib.bytesWorld wr 5 ⟨S.toArray⟩).heap.size (some ⟨wr.heap.size, 0, none⟩) S.length (grownCap wr S.length 0 5) (qH _ _ rfl) S ((qBE.below hbA).breads hbr)
   rw [hlk] at happ hr2
   have HR2 : Hid (BRow w2 w.heap.size (.slice la (k + 1) lc') ((us.take (k + 1)).map (·.1))) := by
    unfold Hid
    rw [List.take_succ_eq_append_getElem hlt, List.map_append, List.map_cons, List.map_nil, hSe]
    exact hr2
   have HB2 : Hid (Below w.heap.size w w2) := (HB.out.trans (hbB.mono HB.out.size)).trans hb2
   have HA := Lib.hid happ
   clear hSe hSl hbW hbr hbA hlk hbB happ hr2 hb2 HR
   go_wp2_with (first | (at_builtin; refine qAL rfl _ _ _ _ rfl _ _ rfl rfl HA.out ?_))
   exact ⟨⟨k + 1, la, lc', hlt, by go_num, rfl, HR2, HB2⟩, by simp [intOf]; omega⟩
  ·obtain rfl : k = us.length := by omega
   have hk' : ¬ ((us.length : Nat) : Int) < us.length := by omega
   have HBU : Hid (Calls Tryz.prog 10 #[.slice oa us.length oc, .int .i64 base] wr (ImgTo base code sy wr)) := by
    have := HR.out
    rw [List.take_length] at this
    exact qKz us base code sy tl _ _ wr w HS.out HB.out this
   have HB2 := HB
   clear HR HB
   go_wp2_with fail
   refine HBU.out.mono ?_
   rintro e w3 ⟨⟨ba, bc, s0, s2, rfl, h1, h2⟩, hb3⟩
   have HNW : Hid (∀ W, Below w3.heap.size w3 W -> Calls Tryz.prog 12 #[.agg #[.int .i64 base, .slice ba code.length bc, .slice s0 sy.length s2]] W fun e w' => ∃ v, e = .returned v /\ Below W.heap.size W w' /\ Si.MV w' v (Si.newM base code) sy) := fun W hW => new_of base code sy _ _ W (h1.below hW (Nat.le_refl _)) (h2.below hW (Nat.le_refl _)) HS.out.cl HS.out.sl
   have HB3 := Lib.hid (HB2.out.trans (hb3.mono HB2.out.size))
   have HRN : Hid (∀ W v, Below w3.heap.size w3 W -> Si.MV W v (Si.newM base code) sy -> Calls Tryz.prog 11 #[v, .int .i64 2000] W fun e w' => ∃ m ba bc s0 sl s2 ta tc, e = .returned (.tuple #[.agg (Si.mC m ba bc (.slice s0 sl s2) ta tc), .int .i64 0]) /\ m.told = tl /\ Si.TRd w' ta tl /\ Below W.heap.size W w') := fun W v hW hv => run_of base code sy tl v W hv (HL.out.below (HB3.out.trans (hW.mono HB3.out.size)) HL.out.sz) HS.out.b0 HS.out.b1 HS.out.cl HS.out.sl HS.out.rn
   clear h1 h2 hb3 HBU
   go_wp2_with fail
   have hb4 : Below w3.heap.size w3 ((w3.alloc (.cells #[.int .i64 base, .slice ba code.length bc, .slice s0 sy.length s2] 36)).alloc (.cells #[.int .i64 0, .int .i64 0] 38)) := by go_grown
   refine (HNW.out _ hb4).mono ?_
   rintro e w5 ⟨v, rfl, hb5, hmv⟩
   have hB5 : Below w3.heap.size w3 w5 := hb4.trans (hb5.mono hb4.size)
   have HR := Lib.hid (HRN.out w5 v hB5 hmv)
   have HB5 := Lib.hid (HB3.out.trans (hB5.mono HB3.out.size))
   clear hb4 hb5 hB5 hmv HNW HRN
   go_wp2_with fail
   refine HR.out.mono ?_
   rintro e w6 ⟨m, ba', bc', s0', sl', s2', ta, tc, rfl, htl, htr, hb6⟩
   have HTR := Lib.hid htr
   have HB6 := Lib.hid (HB5.out.trans (hb6.mono HB5.out.size))
   have HTL := Lib.hid htl
   have HN := Lib.hid (qH w6 (.cells #[.int .i64 0, .int .i64 0, .int .i64 0, .int .i64 0, .int .i64 0, .int .i64 0, .int .i64 0, .int .i64 0, .int .i64 0, .int .i64 0, .int .i64 0, .int .i64 0, .int .i64 0, .int .i64 0, .int .i64 0, .int .i64 0, .bool false, .int .i64 0, .int .i64 0, .int .i64 0, .slice none 0 0, .slice none 0 0, .slice none 0 0, .int .i64 0] 43) rfl)
   clear hb6 htr htl HR
   go_wp2_with (first | (refine wpList_store_row rfl 43 _ _ rfl w6.heap.size (Si.mC m ba' bc' (.slice s0' sl' s2') ta tc) rfl rfl 43 #[.int .i64 0, .int .i64 0, .int .i64 0, .int .i64 0, .int .i64 0, .int .i64 0, .int .i64 0, .int .i64 0, .int .i64 0, .int .i64 0, .int .i64 0, .int .i64 0, .int .i64 0, .int .i64 0, .int .i64 0, .int .i64 0, .bool false, .int .i64 0, .int .i64 0, .int .i64 0, .slice none 0 0, .slice none 0 0, .slice none 0 0, .int .i64 0] HN.out (Si.qBr _ _ _ _ _ _) rfl (Si.mAll _ _ _ _ _ _ _ _) ?_; obtain ⟨hbx, hqx⟩ := newbox w6 #[.int .i64 0, .int .i64 0, .int .i64 0, .int .i64 0, .int .i64 0, .int .i64 0, .int .i64 0, .int .i64 0, .int .i64 0, .int .i64 0, .int .i64 0, .int .i64 0, .int .i64 0, .int .i64 0, .int .i64 0, .int .i64 0, .bool false, .int .i64 0, .int .i64 0, .int .i64 0, .slice none 0 0, .slice none 0 0, .slice none 0 0, .int .i64 0] (Si.mC m ba' bc' (.slice s0' sl' s2') ta tc); generalize World.setRow _ w6.heap.size _ = X at hbx hqx ⊢; have HTX := Lib.hid (HTR.out.next hbx); have HBX := Lib.hid (HB6.out.trans (hbx.mono HB6.out.size)); have hc := qKs hqx; rw [HTL.out] at hc; have hzx := qC hqx; clear hbx hqx HN))
   go_ret2
   exact ⟨⟨ta, tc, rfl, HTX.out⟩, HBX.out⟩
end Go.Proofs.YtfmljailbebfgaaGreatDoor
namespace Go.Proofs.YtfmljailbebfgaaGreatDoor
open Go.RowKit Go.Maps Go.MapKept
theorem qKm (nm : List UInt8) (a op : Int) : (Ins.mk nm [opS a, .reg r0'] op).toks = wd nm :: sg 35 :: ((numT a ++ endT).map tkOf) := by
 unfold Ins.toks opS numT
 split <;> rfl
theorem qFx (v : Value) (L : List (List UInt8 × List Sc.Tok)) (hL : ∀ x, x ∈ L -> OkL x.1 x.2) (hp : ∀ x, x ∈ L -> x.2.length <= 100 /\ qAJ (qCG (x.2.map tkOf))) (hl : L.length <= 10) (ob : Ob) (ls : List (Int × List Tk)) (hls : (srcN L).map lnOf = ls) (w : World) (hA : qAH w) (hv : Sc.qA7 w v (srcB L)) (hm : ∀ W gu mb gp mi W1, qAH W -> qHj W W1 gu mb gp mi -> Makes W gu ls ob W1) : qDt v ob w := by
 have hn : (srcN L).length = L.length := by
  have : ∀ (l : List (List Sc.Tok)) (k : Nat), (qCv k l).length = l.length := by
   intro l
   induction l with
   | nil => intro k; rfl
   | cons a r ih => intro k; simp [qCv, ih]
  rw [srcN, this, List.length_map]
 refine qIK v (srcB L) (srcN L) ob w hv (qJQ L hL hl) (by omega) (qI1 L hp) hA.gl ?_
 intro u W hbw hl'
 rw [hls] at hl'
 exact qG0 u _ _ W hl' (by rw [<- hls, List.length_map]; omega) (fun gu mb gp mi W1 h => hm W gu mb gp mi W1 (hA.next hbw) h)
theorem qE4 (v : Value) (b : Int) (h0 : -100 <= b) (h1 : b <= 100) (w : World) (hA : qAH w) (hv : Sc.qA7 w v (srcB (qBN b))) : qDt v (qAg b) w := by
 refine qFx v (qBN b) (qFe b h0 h1) (qHJ b) (by simp [qBN]) (qAg b) ((qCQ b).map fun a => (a.1, a.2.toks)) ?_ w hA hv ?_
 ·have e := qKm [97, 100, 100] b 4
  simp only [srcN, qBN, qCQ, List.map_cons, List.map_nil, qCv, lnOf, qCw, Lk.toks, e]
  rfl
 ·intro W gu mb gp mi W1 hAW h
  refine qE2 W W1 gu mb gp mi (qCQ b) (qAg b) hAW h (by simp [qCQ]) ?_ ?_ (fun X => fin_more X b h0 h1)
  ·intro a ha
   simp only [qCQ, List.mem_cons, List.not_mem_nil, or_false] at ha
   rcases ha with rfl | rfl
   ·refine ⟨ok_iRts, fun nm h => ?_⟩
    obtain rfl : qz = nm := by simpa using h
    exact ⟨by decide, by unfold regU; decide, by decide⟩
   ·exact ⟨ok_iAddS b h0 h1, by simp⟩
  ·intro k hk nm hnm
   have h2 : k = 0 \/ k = 1 := by simp [qCQ] at hk; omega
   rcases h2 with rfl | rfl
   ·rfl
   ·exact absurd hnm (by simp [qCQ])
theorem qDF : ∀ a, a ∈ qCP -> a.2.Ok /\ a.2.lab = none := by
 intro a ha
 simp only [qCP, List.mem_cons, List.not_mem_nil, or_false] at ha
 rcases ha with rfl | rfl | rfl | rfl
 ·exact ⟨⟨ok_iJsr, by simp⟩, rfl⟩
 ·exact ⟨⟨qHH, by simp⟩, rfl⟩
 ·exact ⟨⟨qFC 1 (by kernel_rfl), by simp⟩, rfl⟩
 ·exact ⟨⟨qFC 0 (by kernel_rfl), by simp⟩, rfl⟩
theorem qL8 : ∀ a, a ∈ k2Go -> a.2.Ok /\ a.2.lab = none := by
 intro a ha
 simp only [k2Go, List.mem_cons, List.not_mem_nil, or_false] at ha
 rcases ha with rfl | rfl
 ·exact ⟨⟨ok_iJmp, by simp⟩, rfl⟩
 ·exact ⟨⟨qHH, by simp⟩, rfl⟩
theorem unit_go (v : Value) (w : World) (hA : qAH w) (hv : Sc.qA7 w v (srcB goSL)) : qDt v obGo w := by
 refine qFx v goSL goS_ok qLO (by simp [goSL]) obGo (([] : List (Int × Lk)).map (fun a => (a.1, a.2.toks)) ++ (1, qA0 qd r1') :: k2Go.map (fun a => (a.1, a.2.toks))) rfl w hA hv ?_
 intro W gu mb gp mi W1 hAW h
 refine qDb W W1 gu mb gp mi [] k2Go 1 qd r1' obGo hAW h (by simp) (by simp [k2Go]) (by simp) (fun a ha => (qL8 a ha).1) (fun a ha => (qL8 a ha).2) (fun k hk => by simp at hk) (by decide) (by rw [qCN]; decide) (by kernel_rfl) ?_
 intro X ln gp' mi' hn
 exact fin_go W X gu mb gp gp' mi' ln hn
theorem qLe (v : Value) (a : Int) (h0 : -100 <= a) (h1 : a <= 100) (w : World) (hA : qAH w) (hv : Sc.qA7 w v (srcB (qBX a))) : qDt v (qAR none a) w := by
 refine qFx v (qBX a) (qFR a h0 h1) (qHX a) (by simp [qBX, qB9]) (qAR none a) ((qBG none a).map (fun a => (a.1, a.2.toks)) ++ (2, qA0 qz r1') :: qCP.map (fun a => (a.1, a.2.toks))) ?_ w hA hv ?_
 ·have e := qKm [109, 111, 118] a 3
  simp only [srcN, qBX, qBG, List.map_cons, List.map_nil, qCv, lnOf, qCd, Lk.toks, e]
  rfl
 ·intro W gu mb gp mi W1 hAW h
  refine qDb W W1 gu mb gp mi (qBG none a) qCP 2 qz r1' (qAR none a) hAW h (by simp [qBG]) (by simp [qCP]) ?_ (fun a ha => (qDF a ha).1) (fun a ha => (qDF a ha).2) ?_ (by decide) (by rw [qCN]; decide) (by kernel_rfl) ?_
  ·intro x hx
   obtain rfl := List.mem_singleton.1 hx
   exact ⟨qIT a h0 h1, by simp⟩
  ·intro k hk nm hnm
   obtain rfl : k = 0 := by simp [qBG] at hk; omega
   exact absurd hnm (by simp [qBG])
  ·intro X ln gp' mi' hn
   exact qIN W X gu mb gp gp' mi' none (.inl rfl) ln a h0 h1 hn
theorem qJf (v : Value) (a : Int) (h0 : -100 <= a) (h1 : a <= 100) (w : World) (hA : qAH w) (hv : Sc.qA7 w v (srcB (qBU a))) : qDt v (qAR (some qd) a) w := by
 refine qFx v (qBU a) (qGz a h0 h1) (qGN a) (by simp [qBU, qB9]) (qAR (some qd) a) ((qBG (some qd) a).map (fun a => (a.1, a.2.toks)) ++ (2, qA0 qz r1') :: qCP.map (fun a => (a.1, a.2.toks))) ?_ w hA hv ?_
 ·have e := qKm [109, 111, 118] a 3
  simp only [srcN, qBU, qBG, List.map_cons, List.map_nil, qCv, lnOf, qCd, Lk.toks, e]
  rfl
 ·intro W gu mb gp mi W1 hAW h
  refine qDb W W1 gu mb gp mi (qBG (some qd) a) qCP 2 qz r1' (qAR (some qd) a) hAW h (by simp [qBG]) (by simp [qCP]) ?_ (fun a ha => (qDF a ha).1) (fun a ha => (qDF a ha).2) ?_ (by decide) (by rw [qCN]; decide) (by kernel_rfl) ?_
  ·intro x hx
   obtain rfl := List.mem_singleton.1 hx
   refine ⟨qIT a h0 h1, fun nm h => ?_⟩
   obtain rfl : qd = nm := by simpa using h
   exact ⟨by decide, by unfold regU; decide, by decide⟩
  ·intro k hk nm hnm
   obtain rfl : k = 0 := by simp [qBG] at hk; omega
   rfl
  ·intro X ln gp' mi' hn
   exact qIN W X gu mb gp gp' mi' (some qd) (.inr rfl) ln a h0 h1 hn
end Go.Proofs.YtfmljailbebfgaaGreatDoor
namespace Go.Proofs.YtfmljailbebfgaaGreatDoor
open Go.RowKit
theorem qL6 (A B : List UInt8) (z0 z1 z2 z3 : UInt8) (n : Int) : Li.putL (A ++ ([z0, z1, z2, z3] ++ B)) (A.length : Int) 4 n = A ++ (be4 n ++ B) := by
 unfold Li.putL
 apply List.ext_getElem?
 intro i
 rw [List.getElem?_mapIdx]
 by_cases h1 : i < A.length
 ·rw [List.getElem?_append_left h1, List.getElem?_append_left h1, List.getElem?_eq_getElem h1]
  simp only [Option.map_some]
  rw [if_neg (by omega)]
 ·rw [List.getElem?_append_right (Nat.le_of_not_lt h1), List.getElem?_append_right (l₁ := A) (l₂ := be4 n ++ B) (Nat.le_of_not_lt h1)]
  obtain ⟨j, hj⟩ : ∃ j, i = A.length + j := ⟨i - A.length, by omega⟩
  subst hj
  rw [show A.length + j - A.length = j by omega]
  have e : ((A.length + j : Nat) : Int) - (A.length : Int) = j := by omega
  rw [e]
  rcases j with _ | _ | _ | _ | j
  ·rfl
  ·rfl
  ·rfl
  ·have e4 : n / 2 ^ (8 * ((4 : Int) - 1 - 3)).toNat = n := by simp
   show some (lowB (n / 2 ^ (8 * ((4 : Int) - 1 - 3)).toNat)) = some (lowB n)
   rw [e4]
  ·have hB : ([z0, z1, z2, z3] ++ B)[j + 1 + 1 + 1 + 1]? = B[j]? := rfl
   have hB2 : (be4 n ++ B)[j + 1 + 1 + 1 + 1]? = B[j]? := rfl
   rw [hB, hB2]
   cases B[j]? with
   | none => rfl
   | some c =>
     simp only [Option.map_some]
     rw [if_neg (by omega)]
theorem qEU {o p : Ob} (h : o.code.length = p.code.length) (hs : o.syms = p.syms) (hr : o.rels = p.rels) : qAD qO o = qAD qO p := by
 unfold qAD
 rw [h, hs, hr]
theorem qF5 (lab : Option (List UInt8)) (a : Int) : (qAR lab a).code.length = 16 := by show (Si.qI (Si.main4 a) ++ [0, 0, 0, 0]).length = 16; rw [List.length_append, Si.qAz]; rfl
theorem go_len : obGo.code.length = 12 := by show (Si.qI Si.go4 ++ [0, 0, 0, 0, 0, 0]).length = 12; rw [List.length_append, Si.qBf]; rfl
theorem qIL (b : Int) : (qAg b).code.length = 4 := Si.qBO b
theorem qCm (lab : Option (List UInt8)) (hlab : lab = none \/ lab = some qd) (a : Int) : qAD qO (qAR lab a) = 0 := by
 rw [qEU (o := qAR lab a) (p := ⟨List.replicate 16 0, symM lab, [⟨12, 4, qz, 0⟩]⟩) (by rw [qF5]; simp) rfl rfl]
 rcases hlab with rfl | rfl <;> kernel_rfl
theorem qIb : qAD qO obGo = 0 := by
 rw [qEU (o := obGo) (p := ⟨List.replicate 12 0, [], [⟨8, 4, qd, 0⟩]⟩) (by rw [go_len]; simp) rfl rfl]
 kernel_rfl
theorem qCD (b : Int) : qAD qO (qAg b) = 0 := by
 rw [qEU (o := qAg b) (p := ⟨List.replicate 4 0, [⟨qz, 0⟩], []⟩) (by rw [qIL]; simp) rfl rfl]
 kernel_rfl
theorem qK1 {obs : List Ob} {base : Int} {zs : List (Ob × Int)} {code code' : List UInt8} {syms : List Sy} (h0 : 0 <= base) (h1 : base <= 1048576) (h4 : base % 4 = 0) (hn : 0 < obs.length /\ obs.length <= 4) (hw : Li.qAB qO 0 obs = none) (hz : obs.zip (Li.qm base obs) = zs) (hl : Li.layL base 0 [] [] zs = .ok (code, syms)) (hr : Li.relL syms base 0 code zs = .ok code') : Li.qCJ qO obs base = .ok (code', syms) := by
 unfold Li.qCJ
 rw [if_neg (by omega), if_neg (by omega)]
 unfold Li.qGC
 rw [hw]
 show Li.qGG obs base = _
 unfold Li.qGG
 rw [hz, hl]
 show Li.qHd base zs (code, syms) = _
 unfold Li.qHd
 rw [hr]
theorem qDP {base at' : Int} {i : Nat} {b : List UInt8} {s s' : List Sy} {o : Ob} {r : List (Ob × Int)} (h : Li.qAP at' s o.syms = some s') (hz : (at' - base - b.length).toNat = 0) : Li.layL base i b s ((o, at') :: r) = Li.layL base (i + 1) (b ++ o.code) s' r := by
 rw [Li.layL, h]
 simp only [hz, List.replicate_zero, List.append_nil]
theorem qID {base : Int} {i : Nat} {b : List UInt8} {s : List Sy} : Li.layL base i b s [] = .ok (b, s) := rfl
theorem qDA {syms : List Sy} {base at' : Int} {i : Nat} {b c : List UInt8} {o : Ob} {r : List (Ob × Int)} (h : Li.qAY syms base at' b o.rels = .ok c) : Li.relL syms base i b ((o, at') :: r) = Li.relL syms base (i + 1) c r := by
 rw [Li.relL, h]
theorem qF4 {syms : List Sy} {base at' : Int} {A B : List UInt8} {z0 z1 z2 z3 : UInt8} {nm : List UInt8} {pos p : Int} (hnm : nm ≠ []) (hp : Li.qi nm syms = p) (h0 : 0 <= p) (h1 : p <= 1000000) (hpos : at' - base + pos = A.length) : Li.qAY syms base at' (A ++ ([z0, z1, z2, z3] ++ B)) [⟨pos, 4, nm, 0⟩] = .ok (A ++ (be4 p ++ B)) := by
 have e : Li.qBk syms base at' (A ++ ([z0, z1, z2, z3] ++ B)) ⟨pos, 4, nm, 0⟩ = .ok (A ++ (be4 p ++ B)) := by
  unfold Li.qBk
  simp only [if_neg hnm, hp]
  rw [if_neg (by omega), if_neg (by omega), show wrap32 (p + 0) = p by unfold wrap32; omega, hpos, qL6]
 rw [Li.qAY, e]
 rfl
theorem qMO (base a b : Int) (h0 : 0 <= base) (h1 : base <= 4000) (h4 : base % 4 = 0) : Li.qCJ qO [qAR none a, qAg b] base = .ok (Si.qDv base a b, [⟨qz, 0 + (base + 16)⟩]) := by
 have hu : Li.up4 base = base := Li.qEp h4
 have hu2 : Li.up4 (base + 16) = base + 16 := Li.qEp (by omega)
 have hm := qF5 none a
 refine qK1 (zs := [(qAR none a, base), (qAg b, base + 16)]) (code := (qAR none a).code ++ (qAg b).code) h0 (by omega) h4 ⟨by simp, by simp⟩ ?_ ?_ ?_ ?_
 ·simp [Li.qAB, qCm none (.inl rfl) a, qCD b]
 ·simp [Li.qm, hu, hm, hu2]
 ·have e1 : Li.qAP base [] (qAR none a).syms = some [] := rfl
  have e2 : Li.qAP (base + 16) [] (qAg b).syms = some [⟨qz, 0 + (base + 16)⟩] := rfl
  rw [qDP e1 (by simp), qDP e2 (by rw [List.nil_append, hm]; omega), qID, List.nil_append]
 ·have e := qF4 (syms := [⟨qz, 0 + (base + 16)⟩]) (base := base) (at' := base) (A := Si.qI (Si.main4 a)) (B := Si.qI (Si.more4 b)) (z0 := 0) (z1 := 0) (z2 := 0) (z3 := 0) (nm := qz) (pos := 12) (p := base + 16) (by decide) (by show 0 + (base + 16) = _; omega) (by omega) (by omega) (by rw [Si.qAz]; omega)
  have hc : (qAR none a).code ++ (qAg b).code = Si.qI (Si.main4 a) ++ ([0, 0, 0, 0] ++ Si.qI (Si.more4 b)) := by
   show (Si.qI (Si.main4 a) ++ [0, 0, 0, 0]) ++ Si.qI (Si.more4 b) = _
   rw [List.append_assoc]
  have hr1 : (qAR none a).rels = [⟨12, 4, qz, 0⟩] := rfl
  have hr2 : (qAg b).rels = [] := rfl
  rw [hc, qDA (by rw [hr1]; exact e), qDA (c := Si.qI (Si.main4 a) ++ (be4 (base + 16) ++ Si.qI (Si.more4 b))) (by rw [hr2]; rfl)]
  rfl
theorem qKl (base a b : Int) (h0 : 0 <= base) (h1 : base <= 4000) (h4 : base % 4 = 0) : Li.qCJ qO [obGo, qAg b, qAR (some qd) a] base = .ok (Si.qBV base a b, [⟨qz, 0 + (base + 12)⟩, ⟨qd, 0 + (base + 16)⟩]) := by
 have hu : Li.up4 base = base := Li.qEp h4
 have hu1 : Li.up4 (base + 12) = base + 12 := Li.qEp (by omega)
 have hu2 : Li.up4 (base + 12 + 4) = base + 16 := by rw [Li.qEp (by omega)]; omega
 have hm := qF5 (some qd) a
 have hg := go_len
 have hb := qIL b
 refine qK1 (zs := [(obGo, base), (qAg b, base + 12), (qAR (some qd) a, base + 16)]) (code := obGo.code ++ ((qAg b).code ++ (qAR (some qd) a).code)) h0 (by omega) h4 ⟨by simp, by simp⟩ ?_ ?_ ?_ ?_
 ·simp [Li.qAB, qCm (some qd) (.inr rfl) a, qCD b, qIb]
 ·simp [Li.qm, hu, hg, hb, hu1, hu2]
 ·have e1 : Li.qAP base [] obGo.syms = some [] := rfl
  have e2 : Li.qAP (base + 12) [] (qAg b).syms = some [⟨qz, 0 + (base + 12)⟩] := rfl
  have e3 : Li.qAP (base + 16) [⟨qz, 0 + (base + 12)⟩] (qAR (some qd) a).syms = some [⟨qz, 0 + (base + 12)⟩, ⟨qd, 0 + (base + 16)⟩] := rfl
  rw [qDP e1 (by simp), qDP e2 (by rw [List.nil_append, hg]; omega), qDP e3 (by rw [List.length_append, List.nil_append, hg, hb]; omega), qID, List.nil_append, List.append_assoc]
 ·have eg := qF4 (syms := [⟨qz, 0 + (base + 12)⟩, ⟨qd, 0 + (base + 16)⟩]) (base := base) (at' := base) (A := Si.qI Si.go4 ++ [0, 0]) (B := Si.qI (Si.more4 b) ++ (Si.qI (Si.main4 a) ++ [0, 0, 0, 0])) (z0 := 0) (z1 := 0) (z2 := 0) (z3 := 0) (nm := qd) (pos := 8) (p := base + 16) (by decide) (by show 0 + (base + 16) = _; omega) (by omega) (by omega) (by rw [List.length_append, Si.qBf]; simp)
  have em := qF4 (syms := [⟨qz, 0 + (base + 12)⟩, ⟨qd, 0 + (base + 16)⟩]) (base := base) (at' := base + 16) (A := Si.qI Si.go4 ++ ([0, 0] ++ (be4 (base + 16) ++ (Si.qI (Si.more4 b) ++ Si.qI (Si.main4 a))))) (B := []) (z0 := 0) (z1 := 0) (z2 := 0) (z3 := 0) (nm := qz) (pos := 12) (p := base + 12) (by decide) (by show 0 + (base + 12) = _; omega) (by omega) (by omega) (by simp [Si.qBf, Si.qBO, Si.qAz, be4]; omega)
  have hc : obGo.code ++ ((qAg b).code ++ (qAR (some qd) a).code) = (Si.qI Si.go4 ++ [0, 0]) ++ ([0, 0, 0, 0] ++ (Si.qI (Si.more4 b) ++ (Si.qI (Si.main4 a) ++ [0, 0, 0, 0]))) := by
   show (Si.qI Si.go4 ++ [0, 0, 0, 0, 0, 0]) ++ (Si.qI (Si.more4 b) ++ (Si.qI (Si.main4 a) ++ [0, 0, 0, 0])) = _
   simp [List.append_assoc]
  have hc2 : (Si.qI Si.go4 ++ [0, 0]) ++ (be4 (base + 16) ++ (Si.qI (Si.more4 b) ++ (Si.qI (Si.main4 a) ++ [0, 0, 0, 0]))) = (Si.qI Si.go4 ++ ([0, 0] ++ (be4 (base + 16) ++ (Si.qI (Si.more4 b) ++ Si.qI (Si.main4 a))))) ++ ([0, 0, 0, 0] ++ []) := by simp [List.append_assoc]
  have hc3 : (Si.qI Si.go4 ++ ([0, 0] ++ (be4 (base + 16) ++ (Si.qI (Si.more4 b) ++ Si.qI (Si.main4 a))))) ++ (be4 (base + 12) ++ []) = Si.qBV base a b := by simp [Si.qBV, List.append_assoc]
  have hr1 : obGo.rels = [⟨8, 4, qd, 0⟩] := rfl
  have hr2 : (qAg b).rels = [] := rfl
  have hr3 : (qAR (some qd) a).rels = [⟨12, 4, qz, 0⟩] := rfl
  rw [hc, qDA (by rw [hr1]; exact eg), qDA (c := (Si.qI Si.go4 ++ [0, 0]) ++ (be4 (base + 16) ++ (Si.qI (Si.more4 b) ++ (Si.qI (Si.main4 a) ++ [0, 0, 0, 0])))) (by rw [hr2]; rfl), hc2, qDA (by rw [hr3]; exact em), hc3]
  rfl
def qD0 (a b : Int) : List (List UInt8 × Ob) := [(srcB (qBX a), qAR none a), (srcB (qBN b), qAg b)]
def qDq (a b : Int) : List (List UInt8 × Ob) := [(srcB goSL, obGo), (srcB (qBN b), qAg b), (srcB (qBU a), qAR (some qd) a)]
theorem qKv (base a b : Int) (ha0 : -100 <= a) (ha1 : a <= 100) (hb0 : -100 <= b) (hb1 : b <= 100) (h0 : 0 <= base) (h1 : base <= 4000) (h4 : base % 4 = 0) (w : World) (hA : qAH w) : qLu (qD0 a b) base (Si.qDv base a b) [⟨qz, 0 + (base + 16)⟩] [a + b] w := by
 refine ⟨?_, ?_, ?_, qMO base a b h0 h1 h4, Si.call_run base a b ha0 ha1 hb0 hb1 h0 h1 h4, h0, by omega, ?_, by simp, ?_, by simp [qD0], by simp [qD0]⟩
 ·intro u hu W v hW hv
  simp only [qD0, List.mem_cons, List.not_mem_nil, or_false] at hu
  rcases hu with rfl | rfl
  ·exact qLe v a ha0 ha1 W (hA.next hW) hv
  ·exact qE4 v b hb0 hb1 W (hA.next hW) hv
 ·intro u hu
  simp only [qD0, List.mem_cons, List.not_mem_nil, or_false] at hu
  rcases hu with rfl | rfl
  ·exact qCm none (.inl rfl) a
  ·exact qCD b
 ·intro u hu x hx
  simp only [qD0, List.mem_cons, List.not_mem_nil, or_false] at hu
  rcases hu with rfl | rfl
  ·simp [qAR, symM] at hx
  ·obtain rfl : x = ⟨qz, 0⟩ := by simpa [qAg] using hx
   decide
 ·simp [Si.qDv, Si.qAz, Si.qBO, be4]
 ·intro u hu
  simp only [qD0, List.mem_cons, List.not_mem_nil, or_false] at hu
  rcases hu with rfl | rfl
  ·exact Nat.le_trans (qBq _ (qFR a ha0 ha1)) (by simp [qBX, qB9])
  ·exact Nat.le_trans (qBq _ (qFe b hb0 hb1)) (by simp [qBN])
theorem qLd (base a b : Int) (ha0 : -100 <= a) (ha1 : a <= 100) (hb0 : -100 <= b) (hb1 : b <= 100) (h0 : 0 <= base) (h1 : base <= 4000) (h4 : base % 4 = 0) (w : World) (hA : qAH w) : qLu (qDq a b) base (Si.qBV base a b) [⟨qz, 0 + (base + 12)⟩, ⟨qd, 0 + (base + 16)⟩] [a + b] w := by
 refine ⟨?_, ?_, ?_, qKl base a b h0 h1 h4, Si.turn_run base a b ha0 ha1 hb0 hb1 h0 h1 h4, h0, by omega, ?_, by simp, ?_, by simp [qDq], by simp [qDq]⟩
 ·intro u hu W v hW hv
  simp only [qDq, List.mem_cons, List.not_mem_nil, or_false] at hu
  rcases hu with rfl | rfl | rfl
  ·exact unit_go v W (hA.next hW) hv
  ·exact qE4 v b hb0 hb1 W (hA.next hW) hv
  ·exact qJf v a ha0 ha1 W (hA.next hW) hv
 ·intro u hu
  simp only [qDq, List.mem_cons, List.not_mem_nil, or_false] at hu
  rcases hu with rfl | rfl | rfl
  ·exact qIb
  ·exact qCD b
  ·exact qCm (some qd) (.inr rfl) a
 ·intro u hu x hx
  simp only [qDq, List.mem_cons, List.not_mem_nil, or_false] at hu
  rcases hu with rfl | rfl | rfl
  ·simp [obGo] at hx
  ·obtain rfl : x = ⟨qz, 0⟩ := by simpa [qAg] using hx
   decide
  ·obtain rfl : x = ⟨qd, 0⟩ := by simpa [qAR, symM] using hx
   decide
 ·simp [Si.qBV, Si.qAz, Si.qBO, Si.qBf, be4]
 ·intro u hu
  simp only [qDq, List.mem_cons, List.not_mem_nil, or_false] at hu
  rcases hu with rfl | rfl | rfl
  ·exact Nat.le_trans (qBq _ goS_ok) (by simp [goSL])
  ·exact Nat.le_trans (qBq _ (qFe b hb0 hb1)) (by simp [qBN])
  ·exact Nat.le_trans (qBq _ (qGz a ha0 ha1)) (by simp [qBU, qB9])
def usFive : List (List UInt8 × Ob) := [(qJu, qFE)]
theorem qIx (w : World) (hA : qAH w) : qLu usFive 0 (qB5 qFY) [] [5] w := by
 refine ⟨?_, ?_, ?_, qMA, ?_, by decide, by decide, by rw [qIo]; decide, by simp, ?_, by decide, by decide⟩
 ·intro u hu W v hW hv
  obtain rfl := List.mem_singleton.1 hu
  exact qI7 v W (hA.next hW) hv
 ·intro u hu
  obtain rfl := List.mem_singleton.1 hu
  exact qEn
 ·intro u hu x hx
  obtain rfl := List.mem_singleton.1 hu
  simp [qFE] at hx
 ·rw [qJc]
  exact five_run (at_new five4)
 ·intro u hu
  obtain rfl := List.mem_singleton.1 hu
  decide
theorem qKG : (⟨qJu.toArray⟩ : ByteArray) = ⟨#[109, 111, 118, 32, 35, 53, 44, 114, 48, 10, 116, 114, 97, 112, 97, 32, 35, 49, 10, 116, 114, 97, 112, 97, 32, 35, 48, 10]⟩ := rfl
theorem palive3 (w : World) (hA : qAH w) : Calls Tryz.prog 6 #[] w fun e w' => e = .returned (.bool true) /\ Below w.heap.size w w' := by
 have HT : Hid (∀ W lb lc, Below w.heap.size w W -> W.heap[lb]? = some (.cells #[.string ⟨qJu.toArray⟩] 9 (0, 0)) -> Calls Tryz.prog 8 #[.int .i64 0, .slice (some ⟨lb, 0, none⟩) 1 lc] W fun e w' => (∃ ta tc, e = .returned (.tuple #[.slice ta 1 tc, .int .i64 0]) /\ Si.TRd w' ta [5]) /\ Below W.heap.size W w') := fun W lb lc hW hs => qFc usFive 0 _ _ _ lb lc W (qIx W (hA.next hW)) (hA.next hW).isa hs
 clear hA
 go_enter Tryz.func6, Tryz.ntmps6
 go_wp2_with fail
 refine (HT.out _ _ _ (qD _ _) (by rw [qKG]; exact qH _ _ rfl)).mono ?_
 rintro e w1 ⟨⟨ta, tc, rfl, htr⟩, hb1⟩
 obtain ⟨b, off, rfl, hlt, hc⟩ := htr (by simp)
 have c0 : w1.cell? ⟨b, off, none⟩ = some (.int .i64 5) := hc 0 (by simp)
 have HB1 := Lib.hid ((qD w _).trans (hb1.mono (by simp)))
 clear hb1 hc HT
 go_wp2_with fail
 go_ret
 exact ⟨rfl, HB1.out⟩
def catM (s1 : List UInt8) : ByteArray := ((⟨#[109, 111, 118, 32, 35]⟩ : ByteArray) ++ ⟨s1.toArray⟩) ++ ⟨#[44, 114, 48, 10, 109, 111, 118, 46, 108, 32, 61, 109, 111, 114, 101, 44, 114, 49, 10, 106, 115, 114, 32, 64, 114, 49, 10, 110, 111, 112, 10, 116, 114, 97, 112, 97, 32, 35, 49, 10, 116, 114, 97, 112, 97, 32, 35, 48, 10]⟩
theorem catM_eq (a : Int) : catM (Lib.itoa a) = ⟨(srcB (qBX a)).toArray⟩ := by
 unfold catM
 refine ByteArray.ext ?_
 simp [srcB, qBX, qB9, movAL, qLI, jsrL, nopL, tr1L, tr0L, ByteArray.data_append]
def catR (s2 : List UInt8) : ByteArray := ((⟨#[109, 111, 114, 101, 58, 32, 114, 116, 115, 10, 97, 100, 100, 32, 35]⟩ : ByteArray) ++ ⟨s2.toArray⟩) ++ ⟨#[44, 114, 48, 10]⟩
theorem catR_eq (b : Int) : catR (Lib.itoa b) = ⟨(srcB (qBN b)).toArray⟩ := by
 unfold catR
 refine ByteArray.ext ?_
 simp [srcB, qBN, mrtsL, addAL, ByteArray.data_append]
theorem start_eq (a : Int) : (⟨#[115, 116, 97, 114, 116, 58, 32]⟩ : ByteArray) ++ ⟨(srcB (qBX a)).toArray⟩ = ⟨(srcB (qBU a)).toArray⟩ := by
 refine ByteArray.ext ?_
 simp [srcB, qBX, qBU, qB9, movAL, qHa, ByteArray.data_append]
theorem go_str : (⟨(srcB goSL).toArray⟩ : ByteArray) = ⟨#[109, 111, 118, 46, 108, 32, 61, 115, 116, 97, 114, 116, 44, 114, 49, 10, 106, 109, 112, 32, 64, 114, 49, 10, 110, 111, 112, 10]⟩ := rfl
theorem call_in (a b : Int) (t : Bool) (base : Int) (ha0 : -100 <= a) (ha1 : a <= 100) (hb0 : -100 <= b) (hb1 : b <= 100) (h0 : 0 <= base) (h1 : base <= 4000) (h4 : base % 4 = 0) (w : World) (hA : qAH w) :
  Calls Tryz.prog 4 #[.int .i64 a, .int .i64 b, .bool t, .int .i64 base] w fun e w' => e = .returned (.bool true) /\ Below w.heap.size w w' := by
 have HAL := Lib.hid (palive3 w hA)
 have HI1 := Lib.hid fun W (hb : Below w.heap.size w W) => qKS a (by omega) (by omega) W (hA.gl.below hb hA.gl.sz)
 have HI2 := Lib.hid fun W (hb : Below w.heap.size w W) => qKS b (by omega) (by omega) W (hA.gl.below hb hA.gl.sz)
 have HT1 : Hid (∀ W lb lc, Below w.heap.size w W -> W.heap[lb]? = some (.cells #[.string ⟨(srcB (qBX a)).toArray⟩, .string ⟨(srcB (qBN b)).toArray⟩] 9 (0, 0)) -> Calls Tryz.prog 8 #[.int .i64 base, .slice (some ⟨lb, 0, none⟩) 2 lc] W fun e w' => (∃ ta tc, e = .returned (.tuple #[.slice ta 1 tc, .int .i64 0]) /\ Si.TRd w' ta [a + b]) /\ Below W.heap.size W w') := fun W lb lc hW hs => qFc (qD0 a b) base _ _ _ lb lc W (qKv base a b ha0 ha1 hb0 hb1 h0 h1 h4 W (hA.next hW)) (hA.next hW).isa hs
 have HT2 : Hid (∀ W lb lc, Below w.heap.size w W -> W.heap[lb]? = some (.cells #[.string ⟨(srcB goSL).toArray⟩, .string ⟨(srcB (qBN b)).toArray⟩, .string ⟨(srcB (qBU a)).toArray⟩] 9 (0, 0)) -> Calls Tryz.prog 8 #[.int .i64 base, .slice (some ⟨lb, 0, none⟩) 3 lc] W fun e w' => (∃ ta tc, e = .returned (.tuple #[.slice ta 1 tc, .int .i64 0]) /\ Si.TRd w' ta [a + b]) /\ Below W.heap.size W w') := fun W lb lc hW hs => qFc (qDq a b) base _ _ _ lb lc W (qLd base a b ha0 ha1 hb0 hb1 h0 h1 h4 W (hA.next hW)) (hA.next hW).isa hs
 rw [go_str] at HT2
 have hl1 := Lib.itoa_length_le a (by omega) (by omega)
 have hl2 := Lib.itoa_length_le b (by omega) (by omega)
 have hlm := Nat.le_trans (qBq _ (qFR a ha0 ha1)) (show 81 * (qBX a).length <= 1000 by simp [qBX, qB9])
 have HM := Lib.hid (catM_eq a)
 have HR := Lib.hid (catR_eq b)
 have HST := Lib.hid (start_eq a)
 generalize Lib.itoa a = s1 at *
 generalize Lib.itoa b = s2 at *
 generalize srcB (qBX a) = FM at *
 generalize srcB (qBN b) = FR at *
 generalize srcB (qBU a) = FS at *
 unfold catM at HM
 unfold catR at HR
 have g0 : ¬ a < -100 := by omega
 have g1 : ¬ 100 < a := by omega
 have g2 : ¬ b < -100 := by omega
 have g3 : ¬ 100 < b := by omega
 have g4 : ¬ base < 0 := by omega
 have g5 : ¬ 4000 < base := by omega
 have g6 : (base % 4 != 0) = false := by simp; omega
 clear hA ha0 ha1 hb0 hb1 h0 h1 h4
 cases t
 ·go_enter Tryz.func4, Tryz.ntmps4
  go_wp2_with (first | (go_at_call 6; refine HAL.out.mono ?_; rintro e w1 ⟨rfl, hb1⟩; have HB1 := Lib.hid hb1; clear hb1))
  refine (HI1.out _ HB1.out).mono ?_
  rintro e w2 ⟨rfl, hb2⟩
  have HB2 := Lib.hid (HB1.out.trans (hb2.mono HB1.out.size))
  clear hb2 HI1 HAL
  go_wp2_with (first | (go_at_call 7; refine (HI2.out _ HB2.out).mono ?_; rintro e w3 ⟨rfl, hb3⟩; have HB3 := Lib.hid (HB2.out.trans (hb3.mono HB2.out.size)); clear hb3))
  rw [HM.out, HR.out]
  refine (HT1.out _ _ _ (HB3.out.trans ((qD _ _).mono HB3.out.size)) (qH _ _ rfl)).mono ?_
  rintro e w4 ⟨⟨ta, tc, rfl, htr⟩, hb4⟩
  obtain ⟨bb, off, rfl, hlt, hc⟩ := htr (by simp)
  have c0 : w4.cell? ⟨bb, off, none⟩ = some (.int .i64 (a + b)) := hc 0 (by simp)
  have HB4 := Lib.hid ((HB3.out.trans ((qD w3 _).mono HB3.out.size)).trans (hb4.mono (Nat.le_trans HB3.out.size (by go_size))))
  clear hb4 hc HT1 HT2 HM HR HST
  go_wp2_with fail
  go_ret
  exact ⟨by simp, HB4.out⟩
 ·go_enter Tryz.func4, Tryz.ntmps4
  go_wp2_with (first | (go_at_call 6; refine HAL.out.mono ?_; rintro e w1 ⟨rfl, hb1⟩; have HB1 := Lib.hid hb1; clear hb1))
  refine (HI1.out _ HB1.out).mono ?_
  rintro e w2 ⟨rfl, hb2⟩
  have HB2 := Lib.hid (HB1.out.trans (hb2.mono HB1.out.size))
  clear hb2 HI1 HAL
  go_wp2_with (first | (go_at_call 7; refine (HI2.out _ HB2.out).mono ?_; rintro e w3 ⟨rfl, hb3⟩; have HB3 := Lib.hid (HB2.out.trans (hb3.mono HB2.out.size)); clear hb3))
  rw [HM.out, HR.out, HST.out]
  have hb3 : Below w3.heap.size w3 ((w3.alloc (.cells #[.string ⟨FM.toArray⟩, .string ⟨FR.toArray⟩] 9)).alloc (.cells #[.string ⟨#[109, 111, 118, 46, 108, 32, 61, 115, 116, 97, 114, 116, 44, 114, 49, 10, 106, 109, 112, 32, 64, 114, 49, 10, 110, 111, 112, 10]⟩, .string ⟨FR.toArray⟩, .string ⟨FS.toArray⟩] 9)) := by go_grown
  refine (HT2.out _ _ _ (HB3.out.trans (hb3.mono HB3.out.size)) (qH _ _ (by simp))).mono ?_
  rintro e w4 ⟨⟨ta, tc, rfl, htr⟩, hb4⟩
  obtain ⟨bb, off, rfl, hlt, hc⟩ := htr (by simp)
  have c0 : w4.cell? ⟨bb, off, none⟩ = some (.int .i64 (a + b)) := hc 0 (by simp)
  have HB4 := Lib.hid ((HB3.out.trans (hb3.mono HB3.out.size)).trans (hb4.mono (Nat.le_trans HB3.out.size hb3.size)))
  clear hb3 hb4 hc HT1 HT2 HM HR HST
  go_wp2_with fail
  go_ret
  exact ⟨by simp, HB4.out⟩
theorem call_any (a b : Int) (t : Bool) (base : Int) (w : World) (hA : qAH w) :
  Calls Tryz.prog 4 #[.int .i64 a, .int .i64 b, .bool t, .int .i64 base] w fun e w' => e = .returned (.bool true) /\ Below w.heap.size w w' := by
 by_cases h : -100 <= a /\ a <= 100 /\ -100 <= b /\ b <= 100 /\ 0 <= base /\ base <= 4000 /\ base % 4 = 0
 ·exact call_in a b t base h.1 h.2.1 h.2.2.1 h.2.2.2.1 h.2.2.2.2.1 h.2.2.2.2.2.1 h.2.2.2.2.2.2 w hA
 ·have HAL := Lib.hid (palive3 w hA)
  clear hA
  have h5 : a < -100 \/ (¬ a < -100 /\ 100 < a) \/ (¬ a < -100 /\ ¬ 100 < a /\ b < -100) \/ (¬ a < -100 /\ ¬ 100 < a /\ ¬ b < -100 /\ 100 < b) \/ (¬ a < -100 /\ ¬ 100 < a /\ ¬ b < -100 /\ ¬ 100 < b /\ base < 0) \/ (¬ a < -100 /\ ¬ 100 < a /\ ¬ b < -100 /\ ¬ 100 < b /\ ¬ base < 0 /\ 4000 < base) \/ (¬ a < -100 /\ ¬ 100 < a /\ ¬ b < -100 /\ ¬ 100 < b /\ ¬ base < 0 /\ ¬ 4000 < base /\ base % 4 ≠ 0) := by omega
  clear h
  rcases h5 with h1 | ⟨h1, h2⟩ | ⟨h1, h2, h3⟩ | ⟨h1, h2, h3, h4⟩ | ⟨h1, h2, h3, h4, h5⟩ | ⟨h1, h2, h3, h4, h5, h6⟩ | ⟨h1, h2, h3, h4, h5, h6, h7⟩
  case inr.inr.inr.inr.inr.inr =>
   have h8 : (base % 4 != 0) = true := by simpa using h7
   clear h7
   go_enter Tryz.func4, Tryz.ntmps4
   go_wp2_with (first | (go_at_call 6; refine HAL.out.mono ?_; rintro e w1 ⟨rfl, hb1⟩; have HB1 := Lib.hid hb1; clear hb1))
   go_ret
   exact ⟨rfl, HB1.out⟩
  all_goals
   go_enter Tryz.func4, Tryz.ntmps4
   go_wp2_with (first | (go_at_call 6; refine HAL.out.mono ?_; rintro e w1 ⟨rfl, hb1⟩; have HB1 := Lib.hid hb1; clear hb1))
   go_ret
   exact ⟨rfl, HB1.out⟩
end Go.Proofs.YtfmljailbebfgaaGreatDoor
