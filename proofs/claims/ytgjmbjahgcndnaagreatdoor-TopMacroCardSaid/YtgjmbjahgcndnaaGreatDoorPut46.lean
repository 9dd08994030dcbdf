import Derived.Test.YtgjmbjahgcndnaaGreatDoorPut44
import Derived.Test.YtgjmbjahgcndnaaGreatDoorPut35
set_option maxHeartbeats 8000000
set_option maxRecDepth 100000
namespace Go.Proofs.YtgjmbjahgcndnaaGreatDoor
open Go.RowKit
theorem qD1 (b o cap : Nat) (ts : List Tk) (w : World) (h : qI w (.slice (some ⟨b, o, none⟩) ts.length cap) ts) (h0 : 0 < ts.length) (hn : ts.length <= 64) :
  Calls Tryz.prog 157 #[.slice (some ⟨b, o, none⟩) ts.length cap] w fun r w' => r = .returned (.int .i64 ts.length) /\ Below w.heap.size w w' := by
 obtain ⟨_, _, he, hlc, hcm, hcl⟩ := id h
 injection he with he1 _ he3
 subst he1 he3
 obtain ⟨b', o', he, hbl, hcell⟩ := hcl h0
 injection he with he
 injection he with he1 he2 _
 subst he1 he2
 have HC := Lib.hid hcell
 clear hcl hcell h
 go_enter Tryz.func157, Tryz.ntmps157
 go_wp2_with fail
 go_loopw [3, 8] (fun nv iv wr => ∃ k : Nat, k <= ts.length /\ nv = .int .i64 k /\ iv = .int .i64 k /\ Hid (Below w.heap.size w wr)) (fun _ iv _ => ts.length - (intOf iv).toNat)
 case atStart => exact ⟨0, Nat.zero_le _, rfl, rfl, Below.refl _ _⟩
 case round =>
  obtain ⟨k, hk, rfl, rfl, HB⟩ := hrel
  by_cases hlt : k < ts.length
  ·have hk' : (k : Int) < ts.length := by omega
   have hk64 : ¬ (64 : Int) < k := by omega
   obtain ⟨k0, k1, k2, k3⟩ := HC.out k hlt
   have hz := HB.out.size
   replace k0 := (HB.out.cell (by show b < w.heap.size; exact hbl)).trans k0
   replace k1 := (HB.out.cell (by show b < w.heap.size; exact hbl)).trans k1
   replace k2 := (HB.out.cell (by show b < w.heap.size; exact hbl)).trans k2
   replace k3 := (HB.out.cell (by show b < w.heap.size; exact hbl)).trans k3
   have hb2 : b < wr.heap.size := by omega
   obtain ⟨x, hx⟩ : ∃ x, ts[k]'hlt = x := ⟨_, rfl⟩
   rw [hx] at k0 k1 k2
   clear hx
   obtain ⟨xk, xn, xt⟩ := x
   simp only at k0 k1 k2
   go_wp2_with fail
   exact ⟨⟨k + 1, by omega, by go_num, by go_num, HB.out.alloc hz _⟩, by simp [intOf]; omega⟩
  ·obtain rfl : k = ts.length := by omega
   have hk' : ¬ ((ts.length : Nat) : Int) < ts.length := by omega
   have hmin : min (ts.length : Int) 65 = ts.length := by omega
   go_wp2_with fail
   go_ret
   exact ⟨rfl, HB.out⟩
theorem once_any (fv : Value) (f : FuncId) (caps : Array Value) (hf : fv = .func (.func f) #[] caps) (w : World) :
  Calls Tryz.prog 160 #[fv] w fun r w' => (∃ a b, r = .returned (.func (.func 191) #[] #[.pointer (some ⟨a, 0, none⟩), .pointer (some ⟨b, 0, none⟩)])) /\ Below w.heap.size w w' := by
 subst hf
 go_enter Tryz.func160, Tryz.ntmps160
 go_wp2_with fail
 go_returns
 exact ⟨⟨_, _, rfl⟩, by go_grown⟩
theorem qHv {W : World} {A B n size : Nat} {e : TypeId} {v : Value} {xs : List Value} (h : W.ownsRow A e size v n xs) (hB : B <= A) : W.ownsRow B e size v n xs := by
 refine ⟨h.1, ?_⟩
 rcases h.2 with h0 | ⟨g, cap, cur, hv, hg, rest⟩
 ·exact .inl h0
 ·exact .inr ⟨g, cap, cur, hv, Nat.le_trans hB hg, rest⟩
structure InT (W : World) (B : Nat) (q : Nat) (ts : List Tk) : Prop where
 ex : ∃ c gl v wv, W.heap[q]? = some (.cells #[.int .i64 c, .func (.func 159) #[] #[.pointer (some ⟨gl, 0, none⟩)], wv] 228 (0, 0)) /\ W.heap[gl]? = some (.cells #[v] 143 (0, 0)) /\ W.ownsRow B 180 4 v ts.length (tkCs ts)
theorem qGb (v : Value) (ts : List Tk) (w : World) (h : qI w v ts) (h0 : 0 < ts.length) (hn : ts.length <= 64) :
  Calls Tryz.prog 127 #[v] w fun r w' => (∃ q, r = .returned (.pointer (some ⟨q, 0, none⟩)) /\ w.heap.size <= q /\ InT w' w.heap.size q ts) /\ Below w.heap.size w w' := by
 obtain ⟨ad, cap, rfl, hlc, hcm, hcl⟩ := id h
 obtain ⟨b, o, rfl, hbl, hcell⟩ := hcl h0
 have HCN := Lib.hid fun W (hb : Below w.heap.size w W) => qD1 b o cap ts W (h.below hb (Nat.le_refl _)) h0 hn
 have HFL := Lib.hid fun W (hb : Below w.heap.size w W) => flat_any b o cap ts W (h.below hb (Nat.le_refl _)) h0 (by omega)
 obtain ⟨k0, k1, k2, k3⟩ := hcell 0 h0
 simp only [Nat.zero_mul, Nat.add_zero] at k0 k1 k2 k3
 have hz : ((ts.length : Int) == 0) = false := beq_eq_false_iff_ne.2 (by omega)
 have h64 : (ts.length : Int) <= 64 := by omega
 clear hcl hcell h
 go_enter Tryz.func127, Tryz.ntmps127
 obtain ⟨⟨xk, xn, xt⟩, hx⟩ : ∃ x, ts[0]'h0 = x := ⟨_, rfl⟩
 rw [hx] at k0 k1 k2
 simp only at k0 k1 k2
 clear hx
 obtain ⟨m, hm⟩ : ∃ m, ts.length = m := ⟨_, rfl⟩
 have HM := Lib.hid hm
 rw [hm] at h0 hn hlc HCN HFL hz h64 ⊢
 clear hm
 go_wp2_with fail
 all_goals
  refine (HCN.out _ (qE _ _)).mono ?_
  rintro e w1 ⟨rfl, hb1⟩
  obtain ⟨hB1, hz1, xr⟩ := qS hb1
  have y0 : w1.cell? ⟨w.heap.size, 0, none⟩ = some (.slice (some ⟨b, o, none⟩) m cap) := qB xr rfl
  have HB1 := Lib.hid hB1
  have XR := Lib.hid xr
  clear hb1 hB1 xr HCN
  go_wp2_with fail
  refine (HFL.out _ HB1.out).mono ?_
  rintro e w2 ⟨⟨v, rfl, hrow⟩, hb2⟩
  obtain ⟨la, lc, rfl⟩ := qG hrow
  have xr2 := (hb2.block _ hz1).trans XR.out
  have f0 : w2.frozen? ⟨w.heap.size, 0, none⟩ = false := qD xr2
  have y2 : w2.cell? ⟨w.heap.size, 0, none⟩ = some (.slice (some ⟨b, o, none⟩) m cap) := qB xr2 rfl
  have hz2 := qC xr2
  have HB2 := Lib.hid (HB1.out.trans (hb2.mono HB1.out.size))
  have HRW := Lib.hid hrow
  have XR2 := Lib.hid xr2
  clear hb2 xr2 hrow HFL y0
  go_wp2_with fail
  refine (once_any _ _ _ rfl _).mono ?_
  rintro e w3 ⟨⟨pa, pb, rfl⟩, hb3⟩
  have HB3 := Lib.hid hb3
  clear hb3
  go_wp2_with fail
  go_ret
  have hz12 : w.heap.size <= w1.heap.size := HB1.out.size
  have xb := qJ (i := 0) (v := .slice la m lc) XR2.out
  have hr2 := HRW.out.kept (gset w2 w.heap.size 0 (.slice la m lc)) (.inr (fun e => by have := (HRW.out.lt _ e).1; omega))
  have hB3 := (HB2.out.setCell (p := ⟨w.heap.size, 0, none⟩) (Nat.le_refl _) (.slice la m lc)).trans (HB3.out.mono (by simpa using HB2.out.size))
  refine ⟨⟨_, rfl, hB3.size, ⟨_, w.heap.size, .slice la m lc, _, qH _ _ rfl, ?_, ?_⟩⟩, hB3.alloc hB3.size _⟩
  ·rw [old2 _ _ (Nat.lt_of_lt_of_le (by simpa using hz2) HB3.out.size), HB3.out.block _ (by simpa using hz2)]
   exact xb
  ·rw [HM.out]
   exact qHv (Sc.qd (Sc.qd hr2 HB3.out (Nat.le_refl _)) (qE _ _) (Nat.le_refl _)) hz12
theorem index_one (b o cap : Nat) (p s : ByteArray) (w : World) (c0 : w.cell? ⟨b, o, none⟩ = some (.string p)) :
  Calls Tryz.prog 234 #[.slice (some ⟨b, o, none⟩) 1 cap, .string s] w fun r w' => r = .returned (.int .i64 (if (s.toList == p.toList) = true then 0 else -1)) /\ w = w' := by
 by_cases h : (s.toList == p.toList) = true
 ·rw [if_pos h]
  go_enter Tryz.func234, Tryz.ntmps234
  go_wp2_with fail
  refine wp_loop_rounds 2 ?_
  rw [rounds_succ]
  go_wp2_with fail
  go_returns
  exact ⟨rfl, rfl⟩
 ·rw [if_neg h]
  have h' : (s.toList == p.toList) = false := by simpa using h
  clear h
  go_enter Tryz.func234, Tryz.ntmps234
  go_wp2_with fail
  refine wp_loop_rounds 2 ?_
  rw [rounds_succ]
  go_wp2_with fail
  rw [rounds_succ]
  go_wp2_with fail
  go_returns
  exact ⟨rfl, rfl⟩
def qFh (x : Tk) : Value := .agg #[.int .i64 x.k, .int .i64 x.n, .string x.t, .pointer none]
def isNm (nm : ByteArray) (x : Tk) : Bool := x.k == 1 && x.t.toList == nm.toList
theorem qL0 (ps b o cap : Nat) (p : ByteArray) (x : Tk) (w : World) (hps : w.heap[ps]? = some (.cells #[.slice (some ⟨b, o, none⟩) 1 cap] 29 (0, 0))) (c0 : w.cell? ⟨b, o, none⟩ = some (.string p)) :
  Calls Tryz.prog 233 #[qFh x, .pointer (some ⟨ps, 0, none⟩)] w fun r w' => r = .returned (.int .i64 (if isNm p x = true then 0 else -1)) /\ Below w.heap.size w w' := by
 have hb : b < w.heap.size := World.block_lt_of_cell? w _ c0
 have HW := Lib.hid fun W => qFz x.k x.n x.t W
 have hz := qC hps
 have HI := Lib.hid fun W (hb' : Below w.heap.size w W) => index_one b o cap p x.t W ((hb'.cell (by exact hb)).trans c0)
 obtain ⟨k, n, t⟩ := x
 unfold qFh isNm tokV at *
 simp only at *
 generalize (t.toList == p.toList) = q at *
 have HP := Lib.hid hps
 clear hps c0
 obtain ⟨kk, hkk⟩ : ∃ kk, (k == 1) = kk := ⟨_, rfl⟩
 rw [hkk] at HW ⊢
 clear hkk
 cases kk
 ·go_enter Tryz.func233, Tryz.ntmps233
  go_wp2_with (first | (go_at_call 146; refine (HW.out _).mono ?_; rintro e w1 ⟨rfl, hb1⟩) | fail)
  go_ret
  exact ⟨rfl, Below.trans (by go_grown) (hb1.mono (by go_size))⟩
 ·simp only [Bool.true_and]
  generalize (if q = true then (0 : Int) else -1) = z at *
  go_enter Tryz.func233, Tryz.ntmps233
  go_wp2_with (first
   | (go_at_call 146; refine (HW.out _).mono ?_; rintro e w1 ⟨rfl, hb1⟩; have HB1 : Hid (Below w.heap.size w w1) := Below.trans (by go_grown) (hb1.mono (by go_size)); have h1 : w1.cell? ⟨ps, 0, none⟩ = some (.slice (some ⟨b, o, none⟩) 1 cap) := (HB1.out.cell (by exact hz)).trans (qB HP.out rfl); have x1 : w1.heap[w.heap.size]? = some (.cells #[.int .i64 k, .int .i64 n, .string t, .pointer none] 180 (0, 0)) := (hb1.block _ (by go_size)).trans (qH _ _ rfl); have t2 : w1.cell? ⟨w.heap.size, 2, none⟩ = some (.string t) := qB x1 rfl; clear hb1 x1)
   | (go_at_call 234; refine (HI.out _ HB1.out).mono ?_; rintro e w2 ⟨rfl, rfl⟩)
   | fail)
  go_ret
  exact ⟨rfl, HB1.out⟩
structure Fil (W : World) (sb : Nat) (p : ByteArray) (q : Nat) : Prop where
 ex : ∃ ab pb sa ps b o cap g c fv, W.heap[sb]? = some (.cells #[.func (.func 238) #[] #[.pointer (some ⟨ab, 0, none⟩), .pointer (some ⟨pb, 0, none⟩), .pointer (some ⟨sa, 0, none⟩)]] 348 (0, 0)) /\ W.heap[pb]? = some (.cells #[.func (.func 233) #[] #[.pointer (some ⟨ps, 0, none⟩)]] fv (0, 0)) /\ W.heap[sa]? = some (.cells #[.slice (some ⟨g, 0, none⟩) 1 c] 316 (0, 0)) /\ W.cell? ⟨g, 0, none⟩ = some (.pointer (some ⟨q, 0, none⟩)) /\ W.heap[ps]? = some (.cells #[.slice (some ⟨b, o, none⟩) 1 cap] 29 (0, 0)) /\ W.cell? ⟨b, o, none⟩ = some (.string p)
theorem Fil.go {W W' : World} {sb q : Nat} {p : ByteArray} (h : Fil W sb p q) (hb : Below W.heap.size W W') : Fil W' sb p q := by
 obtain ⟨ab, pb, sa, ps, b, o, cap, g, c, fv, h1, h2, h3, h4, h5, h6⟩ := h
 exact ⟨ab, pb, sa, ps, b, o, cap, g, c, fv, (hb.block _ (qC h1)).trans h1, (hb.block _ (qC h2)).trans h2, (hb.block _ (qC h3)).trans h3, (hb.cell (World.block_lt_of_cell? W _ h4)).trans h4, (hb.block _ (qC h5)).trans h5, (hb.cell (World.block_lt_of_cell? W _ h6)).trans h6⟩
def toN (p : ByteArray) (q : Nat) (x : Tk) : Pc := if isNm p x = true then ⟨⟨0, 0, ⟨#[]⟩⟩, some ⟨q, 0, none⟩⟩ else pc x
def Pc.V (x : Pc) : Value := .agg #[.int .i64 x.t.k, .int .i64 x.t.n, .string x.t.t, .pointer x.q]
theorem stand_in (ab pb sa ps b o cap g c q : Nat) (fv : TypeId) (p : ByteArray) (x : Tk) (w : World) (h2 : w.heap[pb]? = some (.cells #[.func (.func 233) #[] #[.pointer (some ⟨ps, 0, none⟩)]] fv (0, 0))) (h3 : w.heap[sa]? = some (.cells #[.slice (some ⟨g, 0, none⟩) 1 c] 316 (0, 0))) (h4 : w.cell? ⟨g, 0, none⟩ = some (.pointer (some ⟨q, 0, none⟩))) (h5 : w.heap[ps]? = some (.cells #[.slice (some ⟨b, o, none⟩) 1 cap] 29 (0, 0))) (h6 : w.cell? ⟨b, o, none⟩ = some (.string p)) :
  Calls Tryz.prog 238 #[qFh x, .pointer (some ⟨ab, 0, none⟩), .pointer (some ⟨pb, 0, none⟩), .pointer (some ⟨sa, 0, none⟩)] w fun r w' => r = .returned (.tuple #[(toN p q x).V, .bool true]) /\ Below w.heap.size w w' := by
 have hg : g < w.heap.size := World.block_lt_of_cell? w _ h4
 have HPA := Lib.hid fun W (hb : Below w.heap.size w W) => qL0 ps b o cap p x W ((hb.block _ (qC h5)).trans h5) ((hb.cell (World.block_lt_of_cell? w _ h6)).trans h6)
 have c2 : w.cell? ⟨pb, 0, none⟩ = some (.func (.func 233) #[] #[.pointer (some ⟨ps, 0, none⟩)]) := qB h2 rfl
 have c3 : w.cell? ⟨sa, 0, none⟩ = some (.slice (some ⟨g, 0, none⟩) 1 c) := qB h3 rfl
 have zp := qC h2
 have za := qC h3
 unfold toN
 obtain ⟨k, n, t⟩ := x
 generalize hq : isNm p ⟨k, n, t⟩ = b1 at *
 clear hq h2 h3 h5 h6
 unfold qFh at *
 simp only at *
 cases b1
 ·simp only [Bool.false_eq_true, if_false] at *
  unfold Pc.V pc
  go_enter Tryz.func238, Tryz.ntmps238
  go_wp2_with (first
   | (go_at_call 233; refine (HPA.out _ (by go_grown)).mono ?_; rintro e w1 ⟨rfl, hb1⟩; have HB1 : Hid (Below w.heap.size w w1) := Below.trans (by go_grown) (hb1.mono (by go_size)); have x1 : w1.heap[w.heap.size]? = some (.cells #[.int .i64 k, .int .i64 n, .string t, .pointer none] 180 (0, 0)) := ((hb1.block _ (by go_size)).trans (old2 _ _ (by go_size))).trans (qH _ _ rfl); have x2 : w1.heap[w.heap.size + 1]? = some (.cells #[.int .i64 0, .int .i64 0, .string ⟨#[]⟩, .pointer none] 180 (0, 0)) := (hb1.block _ (by go_size)).trans (qH _ _ (by go_size)); obtain ⟨⟨⟨u0, u1⟩, u2, u3⟩, _, _, _⟩ := qAn x1; obtain ⟨⟨⟨v0, v1⟩, v2, v3⟩, ⟨f0, f1⟩, f2, f3⟩ := qAn x2; have hz1 := qC x2; have X2 := Lib.hid x2; clear hb1 x1 x2)
   | fail)
  exact bodyPost_ret (v := .tuple #[.agg #[.int .i64 k, .int .i64 n, .string t, .pointer none], .bool true]) (by simp [results, Tryz.results238, go_sem, v0, v1, v2, v3]) rfl ⟨rfl, (((HB1.out.setCell (by show w.heap.size <= w.heap.size + 1; omega) _).setCell (by show w.heap.size <= w.heap.size + 1; omega) _).setCell (by show w.heap.size <= w.heap.size + 1; omega) _).setCell (by show w.heap.size <= w.heap.size + 1; omega) _⟩
 ·simp only [if_true] at *
  unfold Pc.V
  go_enter Tryz.func238, Tryz.ntmps238
  go_wp2_with (first
   | (go_at_call 233; refine (HPA.out _ (by go_grown)).mono ?_; rintro e w1 ⟨rfl, hb1⟩; have HB1 : Hid (Below w.heap.size w w1) := Below.trans (by go_grown) (hb1.mono (by go_size)); have x2 : w1.heap[w.heap.size + 1]? = some (.cells #[.int .i64 0, .int .i64 0, .string ⟨#[]⟩, .pointer none] 180 (0, 0)) := (hb1.block _ (by go_size)).trans (qH _ _ (by go_size)); obtain ⟨⟨⟨v0, v1⟩, v2, v3⟩, ⟨f0, f1⟩, f2, f3⟩ := qAn x2; have hz1 := qC x2; have d3 := (HB1.out.cell (by exact za)).trans c3; have d4 := (HB1.out.cell (by exact hg)).trans h4; have za1 : sa < w1.heap.size := (by have := HB1.out.size; omega); have zg1 : g < w1.heap.size := (by have := HB1.out.size; omega); have X2 := Lib.hid x2; clear hb1 x2)
   | fail)
  have n1 : sa ≠ w.heap.size + 1 := by omega
  have n2 : g ≠ w.heap.size + 1 := by omega
  go_region
  all_goals
   go_wp2_with fail
   exact bodyPost_ret (v := .tuple #[.agg #[.int .i64 0, .int .i64 0, .string ⟨#[]⟩, .pointer (some ⟨q, 0, none⟩)], .bool true]) (by simp [results, Tryz.results238, go_sem, v0, v1, v2, v3]) rfl ⟨rfl, ((((HB1.out.drew.setCell (by show w.heap.size <= w.heap.size + 1; omega) _).setCell (by show w.heap.size <= w.heap.size + 1; omega) _).setCell (by show w.heap.size <= w.heap.size + 1; omega) _).setCell (by show w.heap.size <= w.heap.size + 1; omega) _)⟩
def pcCs (l : List Pc) : List Value := l.flatMap fun x => [.int .i64 x.t.k, .int .i64 x.t.n, .string x.t.t, .pointer x.q]
theorem qK0 (l : List Pc) (x : Pc) : pcCs (l ++ [x]) = pcCs l ++ [.int .i64 x.t.k, .int .i64 x.t.n, .string x.t.t, .pointer x.q] := by simp [pcCs]
theorem qKs : ∀ (l : List Pc) (i : Nat) (h : i < l.length), (pcCs l)[i * 4]? = some (.int .i64 l[i].t.k) /\ (pcCs l)[i * 4 + 1]? = some (.int .i64 l[i].t.n) /\ (pcCs l)[i * 4 + 2]? = some (.string l[i].t.t) /\ (pcCs l)[i * 4 + 3]? = some (.pointer l[i].q)
 | a :: l, 0, _ => by simp [pcCs]
 | a :: l, i + 1, h => by
   have ih := qKs l i (by simpa using h)
   have e : pcCs (a :: l) = [.int .i64 a.t.k, .int .i64 a.t.n, .string a.t.t, .pointer a.q] ++ pcCs l := by simp [pcCs]
   rw [e, show (i + 1) * 4 = i * 4 + 4 by omega]
   simp only [List.getElem_cons_succ]
   refine ⟨?_, ?_, ?_, ?_⟩
   ·rw [List.getElem?_append_right (by simp)]; simpa using ih.1
   ·rw [List.getElem?_append_right (by simp)]; simpa using ih.2.1
   ·rw [List.getElem?_append_right (by simp)]; simpa using ih.2.2.1
   ·rw [List.getElem?_append_right (by simp)]; simpa using ih.2.2.2
theorem qD7 {W : World} {base : Nat} {v : Value} {l : List Pc} (h : W.ownsRow base 180 4 v l.length (pcCs l)) : qY W v l := by
 rcases id h.2 with ⟨hv, h0⟩ | ⟨g, cap, cur, rfl, hg, hgg, hle, hm, rest⟩
 ·have : l = [] := List.eq_nil_of_length_eq_zero h0
  subst this hv
  exact ⟨none, 0, rfl, Nat.le_refl _, Nat.zero_le _, fun h => by simp at h⟩
 ·refine ⟨some ⟨g, 0, none⟩, cap, rfl, hle, hm, fun _ => ⟨g, 0, rfl, qC hgg, fun i hi => ?_⟩⟩
  obtain ⟨a, b, c, d⟩ := qKs l i hi
  have hadd : ∀ j, (⟨g, 0, none⟩ : Addr).add j = ⟨g, 0 + j, none⟩ := fun j => by unfold Addr.add; split <;> simp_all
  have k0 := h.cells rfl _ _ a
  have k1 := h.cells rfl _ _ b
  have k2 := h.cells rfl _ _ c
  have k3 := h.cells rfl _ _ d
  rw [hadd] at k0 k1 k2 k3
  rw [Nat.zero_add] at k0 k1 k2 k3 ⊢
  exact ⟨k0, k1, k2, k3⟩
theorem tkCs_pc (ts : List Tk) : tkCs ts = pcCs (ts.map pc) := by
 induction ts with
 | nil => rfl
 | cons a l ih =>
   have e1 : tkCs (a :: l) = [.int .i64 a.k, .int .i64 a.n, .string a.t, .pointer none] ++ tkCs l := by simp [tkCs]
   have e2 : pcCs ((a :: l).map pc) = [.int .i64 a.k, .int .i64 a.n, .string a.t, .pointer none] ++ pcCs (l.map pc) := by simp [pcCs, pc]
   rw [e1, e2, ih]
theorem InT.toX {W : World} {B q : Nat} {ts : List Tk} (h : InT W B q ts) : ∃ c gl v wv, W.heap[q]? = some (.cells #[.int .i64 c, .func (.func 159) #[] #[.pointer (some ⟨gl, 0, none⟩)], wv] 228 (0, 0)) /\ W.heap[gl]? = some (.cells #[v] 143 (0, 0)) /\ qI W v ts := by
 obtain ⟨c, gl, v, wv, h1, h2, h3⟩ := h.ex
 refine ⟨c, gl, v, wv, h1, h2, qY.toP (qD7 (base := B) ?_)⟩
 rw [List.length_map, <- tkCs_pc]
 exact h3
theorem ownU {w w' : World} {base n : Nat} {e : TypeId} {size : Nat} {v : Value} {xs : List Value} (h : w.ownsRow base e size v n xs) (hb : Below w.heap.size w w') : w'.ownsRow base e size v n xs := by
 refine ⟨h.1, ?_⟩
 rcases h.2 with h | ⟨g, cap, cur, rfl, hg, hcur, rest⟩
 ·exact Or.inl h
 ·exact Or.inr ⟨g, cap, cur, rfl, hg, (hb.block g (Array.getElem?_eq_some_iff.1 hcur).1).trans hcur, rest⟩
theorem qGZ (w : World) : (Instr.makeSlice 143 (.int .i64 0) (.int .i64 5)).run Tryz.prog w = .ok (.slice (some ⟨w.heap.size, 0, none⟩) 0 5) (w.alloc (.cells #[.int .i64 0, .int .i64 0, .string ⟨#[]⟩, .pointer none, .int .i64 0, .int .i64 0, .string ⟨#[]⟩, .pointer none, .int .i64 0, .int .i64 0, .string ⟨#[]⟩, .pointer none, .int .i64 0, .int .i64 0, .string ⟨#[]⟩, .pointer none, .int .i64 0, .int .i64 0, .string ⟨#[]⟩, .pointer none] 180)) := by kernel_rfl
theorem qLe (sb q : Nat) (p : ByteArray) (v : Value) (ts : List Tk) (w : World) (h : Fil w sb p q) (hv : qI w v ts) (hl : ts.length = 5) :
  Calls Tryz.prog 239 #[v, .pointer (some ⟨sb, 0, none⟩)] w fun r w' => (∃ v', r = .returned v' /\ w'.ownsRow w.heap.size 180 4 v' 5 (pcCs (ts.map (toN p q)))) /\ Below w.heap.size w w' := by
 obtain ⟨ab, pb, sa, ps, b, o, cap, g, c, fv, f1, f2, f3, f4, f5, f6⟩ := h
 have HST := Lib.hid fun x W (hb : Below w.heap.size w W) => stand_in ab pb sa ps b o cap g c q fv p x W ((hb.block _ (qC f2)).trans f2) ((hb.block _ (qC f3)).trans f3) ((hb.cell (World.block_lt_of_cell? w _ f4)).trans f4) ((hb.block _ (qC f5)).trans f5) ((hb.cell (World.block_lt_of_cell? w _ f6)).trans f6)
 have hsb := qC f1
 have HSB := Lib.hid f1
 obtain ⟨ad, vc, rfl, hc, hm, hx⟩ := hv
 obtain ⟨b', o', rfl, hlt, hcell⟩ := hx (by omega)
 have HC := Lib.hid hcell
 have HL := Lib.hid hl
 clear hx hcell f1 f2 f3 f4 f5 f6
 rw [hl] at hc ⊢
 have hmk := qGZ
 have hown : (w.alloc (.cells #[.int .i64 0, .int .i64 0, .string ⟨#[]⟩, .pointer none, .int .i64 0, .int .i64 0, .string ⟨#[]⟩, .pointer none, .int .i64 0, .int .i64 0, .string ⟨#[]⟩, .pointer none, .int .i64 0, .int .i64 0, .string ⟨#[]⟩, .pointer none, .int .i64 0, .int .i64 0, .string ⟨#[]⟩, .pointer none] 180)).ownsRow w.heap.size 180 4 (.slice (some ⟨w.heap.size, 0, none⟩) 0 5) 0 [] := ⟨rfl, .inr ⟨w.heap.size, 5, _, rfl, Nat.le_refl _, qH _ _ rfl, by omega, by unfold maxLen; omega, by simp, by simp⟩⟩
 have HOW := Lib.hid hown
 clear hown hl
 go_enter Tryz.func239, Tryz.ntmps239
 go_wp2_with fail
 clear hmk
 go_loopw [4, 14] (fun ov iv wr => ∃ (k : Nat) (la : Option Addr) (lc : Nat), k <= 5 /\ iv = .int .i64 k /\ ov = .slice la k lc /\ Hid (wr.ownsRow w.heap.size 180 4 (.slice la k lc) k (pcCs ((ts.take k).map (toN p q)))) /\ Hid (Below w.heap.size w wr)) (fun _ iv _ => 5 - (intOf iv).toNat)
 case atStart => exact ⟨0, _, _, by omega, rfl, rfl, HOW, qE _ _⟩
 case round =>
  obtain ⟨k, la, lc, hk, rfl, rfl, HO, HB⟩ := hrel
  clear HOW
  by_cases hlt5 : k < 5
  ·have hk' : (k : Int) < 5 := by omega
   have hkl : k < ts.length := by have := HL.out; omega
   obtain ⟨k0, k1, k2, k3⟩ := HC.out k hkl
   have hz := HB.out.size
   replace k0 := (HB.out.cell (by exact hlt)).trans k0
   replace k1 := (HB.out.cell (by exact hlt)).trans k1
   replace k2 := (HB.out.cell (by exact hlt)).trans k2
   replace k3 := (HB.out.cell (by exact hlt)).trans k3
   have hb2 : b' < wr.heap.size := by omega
   have hs : wr.cell? ⟨sb, 0, none⟩ = some (.func (.func 238) #[] #[.pointer (some ⟨ab, 0, none⟩), .pointer (some ⟨pb, 0, none⟩), .pointer (some ⟨sa, 0, none⟩)]) := (HB.out.cell (by exact hsb)).trans (qB HSB.out rfl)
   have hsb2 : sb < wr.heap.size := by omega
   have HT : Hid ((ts.take (k + 1)).map (toN p q) = (ts.take k).map (toN p q) ++ [toN p q (ts[k]'hkl)]) := by
    unfold Hid
    rw [List.take_succ_eq_append_getElem hkl, List.map_append]
    rfl
   obtain ⟨x, hx⟩ : ∃ x, ts[k]'hkl = x := ⟨_, rfl⟩
   rw [hx] at k0 k1 k2 HT
   clear hx
   have HSX := Lib.hid (HST.out x)
   obtain ⟨xk, xn, xt⟩ := x
   unfold qFh Pc.V at HSX
   simp only at k0 k1 k2 HSX
   generalize toN p q ⟨xk, xn, xt⟩ = y at *
   obtain ⟨⟨yk, yn, yt⟩, yq⟩ := y
   simp only at HSX
   clear HST
   go_wp2_with (first
    | (go_at_call 238; refine (HSX.out _ (by have hb := HB.out; go_grown)).mono ?_; rintro e w1 ⟨rfl, hb1⟩; have HB1 : Hid (Below wr.heap.size wr w1) := Below.trans (by go_grown) (hb1.mono (by go_size)); clear hb1)
    | (at_builtin; have hwn : (w1.alloc (.cells #[.int .i64 yk, .int .i64 yn, .string yt, .pointer yq] 180)).heap.size = w1.heap.size + 1 := (by simp); obtain ⟨v6, w6, happ, ho6, hgr6⟩ := app1 143 180 _ 4 40 Tryz.underlying143 qKd rfl (by decide) (by decide) (w := (w1.alloc (.cells #[.int .i64 yk, .int .i64 yn, .string yt, .pointer yq] 180)).alloc (.cells #[.int .i64 yk, .int .i64 yn, .string yt, .pointer yq] 180)) (ownU HO.out (by have hb := HB1.out; have hs := HB1.out.size; go_grown)) (by have := HB1.out.size; simp; omega) [.int .i64 yk, .int .i64 yn, .string yt, .pointer yq] rfl (w1.heap.size + 1) (qH _ _ hwn.symm) (by intro u hu; simp at hu; rcases hu with rfl | rfl | rfl | rfl <;> rfl) (by omega); refine qQ rfl _ _ _ _ rfl _ _ rfl rfl happ ?_)
    | fail)
   obtain ⟨la6, lc6, rfl⟩ := qG ho6
   refine ⟨⟨k + 1, la6, lc6, by omega, by go_num, rfl, ?_, ?_⟩, by simp [intOf]; omega⟩
   ·rw [HT.out, qK0]
    exact ho6
   ·exact ((HB.out.trans (HB1.out.mono hz)).alloc (by have := HB1.out.size; omega) _ |>.alloc (by have := HB1.out.size; simp; omega) _).grown hgr6 (by have := HB1.out.size; simp; omega) (fun j hj => (HO.out.lt j hj).1)
  ·obtain rfl : k = 5 := by omega
   have hk' : ¬ ((5 : Nat) : Int) < 5 := by decide
   go_wp2_with fail
   go_ret
   refine ⟨⟨_, rfl, ?_⟩, HB.out⟩
   have := HO.out
   rw [List.take_of_length_le (by have := HL.out; omega)] at this
   exact this
def keyP (q : Nat) : Value := .agg #[.pointer (some ⟨q, 0, none⟩), .string ⟨#[]⟩, .bool false]
theorem fndP1 (q : Nat) (v : Value) (W : World) : (Instr.findKey 323 (keyP q) [{ key := keyP q, val := v, born := 0 }]).run Tryz.prog W = .ok (some (0, v)) W := by
 have he := eqP q W
 unfold Instr.findKey keyP at *
 simp [Sem.run_bind, run_underlying Tryz.underlying323, Instr.findNow, Instr.sameNow, Instr.findAsking, he, Result.andThen]
theorem qKY (q : Nat) (v : Value) (mi ck : Nat) (W : World) (h : W.heap[mi]? = some (.map #[{ key := keyP q, val := v, born := 0 }] ck)) : (Instr.lookup 318 (.map (some mi)) (.agg #[.pointer (some ⟨q, 0, none⟩), .string ⟨#[]⟩, .bool false]) false).run Tryz.prog W = .ok v W := by
 have hf := fndP1 q v W
 unfold keyP at *
 unfold Instr.lookup
 simp [Sem.run_bind, run_underlying Tryz.underlying318, MapKept.run_getObj_map h, chkP, hf, Result.andThen]
theorem pupd (q : Nat) (v : Value) (mi : Nat) (W : World) (h : W.heap[mi]? = some (.map #[] 0)) : (Instr.mapUpdate 318 (.map (some mi)) (.agg #[.pointer (some ⟨q, 0, none⟩), .string ⟨#[]⟩, .bool false]) v).run Tryz.prog W = .ok () (ChangeMaps.setBlock W mi (.map #[{ key := keyP q, val := v, born := 0 }] 1)) := by
 unfold Instr.mapUpdate keyP
 simp [Sem.run_bind, run_underlying Tryz.underlying318, MapKept.run_getObj_map h, MapKept.run_setObj_map _ h, chkP, fndP, Result.andThen, ChangeMaps.setBlock]
def numK (a : Int) : List Tk := if a < 0 then [⟨3, 0, ⟨#[45]⟩⟩, ⟨2, -a, ⟨#[]⟩⟩] else [⟨2, a, ⟨#[]⟩⟩]
def PRk (W : World) (g q : Nat) (a : Int) (j : Nat) : Prop :=
 if j = (numK a).length then PR W g q ⟨#[]⟩ true (.slice none 0 0) false 0 true ⟨#[]⟩ a
 else PR W g q (if j = 0 then ⟨#[]⟩ else ⟨#[45]⟩) false (.slice none 0 0) false 0 false ⟨#[]⟩ 0
theorem qHT (a : Int) : 0 < (numK a).length := by unfold numK; split <;> simp
theorem qMD (a : Int) : (numK a).length <= 2 := by unfold numK; split <;> simp
theorem PRk.go {W W' : World} {g q j : Nat} {a : Int} (h : PRk W g q a j) (hb : Below W.heap.size W W') : PRk W' g q a j := by
 unfold PRk at *
 split
 ·rename_i e
  rw [if_pos e] at h
  exact PR.go h hb
 ·rename_i e
  rw [if_neg e] at h
  exact PR.go h hb
theorem PRk.pt {W : World} {g q j : Nat} {a : Int} (h : PRk W g q a j) : ∃ c, W.heap[g]? = some (.cells c 332 (0, 0)) /\ c[6]? = some (.int .i64 0) := by
 unfold PRk at h
 split at h
 ·exact ⟨_, h.pt, rfl⟩
 ·exact ⟨_, h.pt, rfl⟩
theorem PRk.ch {W : World} {g q j : Nat} {a : Int} (h : PRk W g q a j) : ∃ c, W.heap[q]? = some (.cells c 353 (0, 0)) := by
 unfold PRk at h
 split at h
 ·exact ⟨_, h.ch⟩
 ·exact ⟨_, h.ch⟩
theorem add_k (g q : Nat) (a : Int) (h0 : -100 <= a) (h1 : a <= 100) (j : Nat) (hj : j < (numK a).length) (w : World) (hL : Xp.qAT w) (h : PRk w g q a j) :
  Calls Tryz.prog 220 #[.pointer (some ⟨g, 0, none⟩), (numK a)[j].V] w fun r w' => r = .returned (.tuple #[]) /\ PRk w' g q a (j + 1) /\ F2 g q w w' := by
 have hw : ∀ z : Int, -1000 <= z -> z <= 1000 -> wrap32 z = z := fun z z0 z1 => by unfold wrap32; omega
 unfold PRk at h ⊢
 rw [if_neg (by omega)] at h
 by_cases ha : a < 0
 ·have e : numK a = [⟨3, 0, ⟨#[45]⟩⟩, ⟨2, -a, ⟨#[]⟩⟩] := by unfold numK; rw [if_pos ha]
  simp only [e, List.length_cons, List.length_nil] at hj h ⊢
  have hj2 : j = 0 \/ j = 1 := by omega
  rcases hj2 with rfl | rfl
  ·simp only [if_true] at h
   refine (qH5 g q false w hL h).mono ?_
   rintro r w' ⟨rfl, h2, h3⟩
   exact ⟨rfl, by simpa using h2, h3⟩
  ·simp only [Nat.one_ne_zero, if_false] at h
   refine (qIA g q false (-a) ⟨#[]⟩ w hL h).mono ?_
   rintro r w' ⟨rfl, h2, h3⟩
   rw [hw (-a) (by omega) (by omega), hw _ (by omega) (by omega), Int.neg_neg] at h2
   exact ⟨rfl, by simpa using h2, h3⟩
 ·have e : numK a = [⟨2, a, ⟨#[]⟩⟩] := by unfold numK; rw [if_neg ha]
  simp only [e, List.length_cons, List.length_nil] at hj h ⊢
  obtain rfl : j = 0 := by omega
  simp only [if_true] at h
  refine (qHS g q false 2 a ⟨#[]⟩ ⟨#[]⟩ a (.inl ⟨rfl, rfl, (hw a (by omega) (by omega)).symm⟩) w hL h).mono ?_
  rintro r w' ⟨rfl, h2, h3⟩
  exact ⟨rfl, by simpa using h2, h3⟩
def RdB (W : World) (g : Nat) (f : List Value) : Prop := ∃ cur, W.heap[g]? = some (.cells cur 325 (0, 0)) /\ ∀ (i : Nat) (v : Value), f[i]? = some v -> cur[i]? = some v
theorem RdB.cell {W : World} {g i : Nat} {f : List Value} {v : Value} (h : RdB W g f) (hv : f[i]? = some v) : W.cell? ⟨g, i, none⟩ = some v := by
 obtain ⟨cur, h1, h2⟩ := h
 exact qB h1 (h2 i v hv)
theorem RdB.froz {W : World} {g : Nat} {f : List Value} (h : RdB W g f) (i : Nat) : W.frozen? ⟨g, i, none⟩ = false := by
 obtain ⟨cur, h1, _⟩ := h
 exact qD h1
theorem RdB.lt {W : World} {g : Nat} {f : List Value} (h : RdB W g f) : g < W.heap.size := by
 obtain ⟨cur, h1, _⟩ := h
 exact qC h1
theorem RdB.go {W W' : World} {g : Nat} {f : List Value} (h : RdB W g f) (hb : W'.heap[g]? = W.heap[g]?) : RdB W' g f := by
 obtain ⟨cur, h1, h2⟩ := h
 exact ⟨cur, by rw [hb]; exact h1, h2⟩
theorem RdB.set {W : World} {g i : Nat} {f : List Value} (h : RdB W g f) (v : Value) (hi : i < f.length) : RdB (W.setCell ⟨g, i, none⟩ v) g (f.set i v) := by
 obtain ⟨cur, h1, h2⟩ := h
 refine ⟨_, qJ h1, fun j x hx => ?_⟩
 rw [List.getElem?_set] at hx
 have hci : i < cur.size := by
  have := h2 i _ (List.getElem?_eq_getElem hi)
  exact (Array.getElem?_eq_some_iff.1 this).1
 by_cases e : i = j
 ·subst e
  rw [if_pos rfl, if_pos hi] at hx
  rw [Array.getElem?_setIfInBounds_self_of_lt hci]
  exact hx
 ·rw [if_neg e] at hx
  rw [Array.getElem?_setIfInBounds_ne (by omega)]
  exact h2 j x hx
theorem RdB.of {W : World} {base g n cap : Nat} {f : List Value} (h : W.ownsRow base 325 5 (.slice (some ⟨g, 0, none⟩) n cap) n f) : RdB W g f := by
 rcases h.2 with ⟨h0, _⟩ | ⟨g', cap', cur, hv, _, hg, _, _, _, hx⟩
 ·cases h0
 ·injection hv with e1 _ _
  injection e1 with e1
  injection e1 with e1 _ _
  subst e1
  refine ⟨cur, hg, fun i v hi => ?_⟩
  rw [<- hx, List.getElem?_take] at hi
  split at hi
  ·simpa using hi
  ·cases hi
def InP (W : World) (q : Nat) (ts : List Tk) : Prop := ∃ c gl v wv, W.heap[q]? = some (.cells #[.int .i64 c, .func (.func 159) #[] #[.pointer (some ⟨gl, 0, none⟩)], wv] 228 (0, 0)) /\ W.heap[gl]? = some (.cells #[v] 143 (0, 0)) /\ qI W v ts
theorem InP.go {W W' : World} {q : Nat} {ts : List Tk} (h : InP W q ts) (hb : Below W.heap.size W W') : InP W' q ts := by
 obtain ⟨c, gl, v, wv, h1, h2, h3⟩ := h
 exact ⟨c, gl, v, wv, (hb.block _ (qC h1)).trans h1, (hb.block _ (qC h2)).trans h2, h3.below hb (Nat.le_refl _)⟩
theorem qJt (gl : Nat) (v : Value) (w : World) (h : w.heap[gl]? = some (.cells #[v] 143 (0, 0))) (hv : ∃ a n c, v = .slice a n c) : Calls Tryz.prog 159 #[.pointer (some ⟨gl, 0, none⟩)] w fun r w' => r = .returned v /\ w' = w := by
 obtain ⟨a, n, c, rfl⟩ := hv
 have c0 : w.cell? ⟨gl, 0, none⟩ = some (.slice a n c) := qB h rfl
 have hg := qC h
 clear h
 go_enter Tryz.func159, Tryz.ntmps159
 go_wp2
 go_ret
 exact ⟨rfl, rfl⟩
def lenS : Option Value -> Nat
 | some (.slice _ n _) => n
 | _ => 0
def qEb (mi : Nat) (W : World) : Value -> Nat
 | .slice (some a) n _ => if n = 2 then 10 + lenS (W.cell? ⟨a.block, 5, none⟩) else (match W.heap[mi]? with
   | some (.map es _) => if es.size = 0 then 100 else 1 + lenS (W.cell? ⟨a.block, 0, none⟩)
   | _ => 0)
 | _ => 0
theorem k4 {W W' : World} {rb b i : Nat} {v0 v1 v2 : Value} (h0 : rb < W.heap.size) (h1 : b < W.heap.size) (hb : Below W.heap.size W W') (c0 : W.cell? ⟨rb, 0, none⟩ = some v0) (c1 : W.cell? ⟨rb, 1, none⟩ = some v1) (c2 : W.cell? ⟨b, i, none⟩ = some v2) : W'.cell? ⟨rb, 0, none⟩ = some v0 /\ W'.cell? ⟨rb, 1, none⟩ = some v1 /\ W'.cell? ⟨b, i, none⟩ = some v2 /\ Below W.heap.size W W' := ⟨(hb.cell (p := ⟨rb, 0, none⟩) h0).trans c0, (hb.cell (p := ⟨rb, 1, none⟩) h0).trans c1, (hb.cell (p := ⟨b, i, none⟩) h1).trans c2, hb⟩
theorem k5 {W W' : World} {p q : Nat} {v0 v1 v2 v3 : Value} (h0 : p < W.heap.size) (h1 : q < W.heap.size) (hb : Below W.heap.size W W') (c0 : W.cell? ⟨p, 0, none⟩ = some v0) (c1 : W.cell? ⟨p, 1, none⟩ = some v1) (c2 : W.cell? ⟨p, 2, none⟩ = some v2) (c3 : W.cell? ⟨q, 1, none⟩ = some v3) : W'.cell? ⟨p, 0, none⟩ = some v0 /\ W'.cell? ⟨p, 1, none⟩ = some v1 /\ W'.cell? ⟨p, 2, none⟩ = some v2 /\ W'.cell? ⟨q, 1, none⟩ = some v3 := ⟨(hb.cell (p := ⟨p, 0, none⟩) h0).trans c0, (hb.cell (p := ⟨p, 1, none⟩) h0).trans c1, (hb.cell (p := ⟨p, 2, none⟩) h0).trans c2, (hb.cell (p := ⟨q, 1, none⟩) h1).trans c3⟩
theorem ownT {w w' : World} {base n : Nat} {e : TypeId} {size : Nat} {v : Value} {xs : List Value} (h : w.ownsRow base e size v n xs) (hb : Below w.heap.size w w') : w'.ownsRow base e size v n xs := by
 refine ⟨h.1, ?_⟩
 rcases h.2 with h | ⟨g, cap, cur, rfl, hg, hcur, rest⟩
 ·exact Or.inl h
 ·exact Or.inr ⟨g, cap, cur, rfl, hg, (hb.block g (Array.getElem?_eq_some_iff.1 hcur).1).trans hcur, rest⟩
theorem qDN {w : World} {base n : Nat} {e : TypeId} {size : Nat} {v : Value} {xs : List Value} (h : w.ownsRow base e size v (n + 1) xs) : ∃ g cap, v = .slice (some ⟨g, 0, none⟩) (n + 1) cap /\ base <= g /\ n + 1 <= cap := by
 rcases h.2 with ⟨_, h0, _⟩ | ⟨g, cap, cur, rfl, hg, _, hc, _⟩
 exact ⟨g, cap, rfl, hg, hc⟩
theorem qCx (mi rb c : Nat) (W : World) (ad : Option Addr) {n k : Nat} (h : W.cell? ⟨rb, 5, none⟩ = some (.slice ad n k)) : qEb mi W (.slice (some ⟨rb, 0, none⟩) (1 + 1) c) = 10 + n := by
 show 10 + lenS (W.cell? ⟨rb, 5, none⟩) = 10 + n
 rw [h]
 rfl
theorem qGj (mi rb c ck : Nat) (W : World) (h : W.heap[mi]? = some (.map #[] ck)) : qEb mi W (.slice (some ⟨rb, 0, none⟩) 1 c) = 100 := by
 unfold qEb
 simp [h]
theorem qDo (mi rb c ck : Nat) (es : Array MapEntry) (W : World) (ad : Option Addr) {n k : Nat} (h0 : es.size ≠ 0) (h : W.heap[mi]? = some (.map es ck)) (h1 : W.cell? ⟨rb, 0, none⟩ = some (.slice ad n k)) : qEb mi W (.slice (some ⟨rb, 0, none⟩) 1 c) = 1 + n := by
 unfold qEb
 simp [h, h0, h1, lenS]
theorem pupd' (q : Nat) (v : Value) (mi : Nat) (W : World) (h : W.heap[mi]? = some (.map #[] 0)) : ∃ W', (Instr.mapUpdate 318 (.map (some mi)) (.agg #[.pointer (some ⟨q, 0, none⟩), .string ⟨#[]⟩, .bool false]) v).run Tryz.prog W = .ok () W' /\ W'.heap[mi]? = some (.map #[{ key := keyP q, val := v, born := 0 }] 1) /\ W.grownBy W' (some mi) :=
 ⟨_, pupd q v mi W h, ChangeMaps.heap_setBlock_same h _, ⟨rfl, rfl, rfl, by simp [ChangeMaps.setBlock], fun i _ hi => ChangeMaps.heap_setBlock_other h _ (fun e => hi (by rw [e]))⟩⟩
theorem RdB.left {W : World} {g : Nat} {f f' : List Value} (h : RdB W g (f ++ f')) : RdB W g f := by
 obtain ⟨cur, h1, h2⟩ := h
 refine ⟨cur, h1, fun i v hv => h2 i v ?_⟩
 rw [List.getElem?_append_left (List.getElem?_eq_some_iff.1 hv).1]
 exact hv
theorem PRk.keep {W W' : World} {g q j : Nat} {a : Int} (h : PRk W g q a j) (h1 : W'.heap[g]? = W.heap[g]?) (h2 : W'.heap[q]? = W.heap[q]?) : PRk W' g q a j := by
 unfold PRk at *
 split
 ·rename_i e
  rw [if_pos e] at h
  exact ⟨h1.trans h.pt, h2.trans h.ch⟩
 ·rename_i e
  rw [if_neg e] at h
  exact ⟨h1.trans h.pt, h2.trans h.ch⟩
theorem PRk.lt {W : World} {g q j : Nat} {a : Int} (h : PRk W g q a j) : g < W.heap.size /\ q < W.heap.size := by
 obtain ⟨c, h1, _⟩ := h.pt
 obtain ⟨c', h2⟩ := h.ch
 exact ⟨qC h1, qC h2⟩
theorem qJe {w : World} {b o l c : Nat} {ts : List Tk} (h : qI w (.slice (some ⟨b, o, none⟩) (l + 1) (c + 1)) ts) : qI w (.slice (if c = 0 then some ⟨b, o, none⟩ else some ⟨b, o + 4, none⟩) l c) (ts.drop 1) := by
 obtain ⟨ad, cap', e, hc, hm, h⟩ := h
 injection e with e1 e2 e3
 subst e1 e3
 have hd : (ts.drop 1).length = l := by rw [List.length_drop]; omega
 refine ⟨_, c, by rw [hd], by omega, by omega, fun h0 => ?_⟩
 rw [if_neg (by omega)]
 obtain ⟨b', o', e, hb, hx⟩ := h (by omega)
 injection e with e
 injection e with e1 e2 _
 subst e1 e2
 refine ⟨b, o + 4, rfl, hb, fun i hi => ?_⟩
 have := hx (i + 1) (by omega)
 rw [show o + 4 + i * 4 = o + (i + 1) * 4 by omega, show (ts.drop 1)[i] = ts[i + 1]'(by omega) by rw [List.getElem_drop]; congr 1; omega]
 exact this
theorem infoRd : (Tryz.prog.info? 325).map (fun i => (i.zero, i.size, i.bytes)) = some (some (.agg #[.slice none 0 0, .pointer none, .pointer none, .string ⟨#[]⟩, .bool false]), 5, 64) := by kernel_rfl
theorem k6 {W W1 W' : World} {p q rb n c : Nat} {v0 v1 v2 v3 : Value} (h0 : p < W.heap.size) (h1 : q < W.heap.size) (hp : p ≠ rb) (hq : q ≠ rb) (hb : Below W.heap.size W W1) (hg : W1.grownBy W' (Value.slice (some ⟨rb, 0, none⟩) n c).ownBlock) (c0 : W.cell? ⟨p, 0, none⟩ = some v0) (c1 : W.cell? ⟨p, 1, none⟩ = some v1) (c2 : W.cell? ⟨p, 2, none⟩ = some v2) (c3 : W.cell? ⟨q, 1, none⟩ = some v3) : W'.cell? ⟨p, 0, none⟩ = some v0 /\ W'.cell? ⟨p, 1, none⟩ = some v1 /\ W'.cell? ⟨p, 2, none⟩ = some v2 /\ W'.cell? ⟨q, 1, none⟩ = some v3 := by
 have hz := hb.size
 have ep : W'.heap[p]? = W.heap[p]? := (hg.block p (by omega) (by simp [Value.ownBlock]; exact hp)).trans (hb.block p h0)
 have eq : W'.heap[q]? = W.heap[q]? := (hg.block q (by omega) (by simp [Value.ownBlock]; exact hq)).trans (hb.block q h1)
 have up : ∀ i v, W.cell? ⟨p, i, none⟩ = some v -> W'.cell? ⟨p, i, none⟩ = some v := fun i v h => by simpa [World.cell?, ep] using h
 have uq : ∀ i v, W.cell? ⟨q, i, none⟩ = some v -> W'.cell? ⟨q, i, none⟩ = some v := fun i v h => by simpa [World.cell?, eq] using h
 exact ⟨up _ _ c0, up _ _ c1, up _ _ c2, uq _ _ c3⟩
theorem qEO (b o cap q : Nat) (k n : Int) (t : ByteArray) (a : Int) (h0 : -100 <= a) (h1 : a <= 100) (w : World) (hL : Xp.qAT w) (hb : b < w.heap.size) (_ : cap + 1 <= maxLen)
  (c0 : w.cell? ⟨b, o, none⟩ = some (.int .i64 k)) (c1 : w.cell? ⟨b, o + 1, none⟩ = some (.int .i64 n)) (c2 : w.cell? ⟨b, o + 2, none⟩ = some (.string t)) (c3 : w.cell? ⟨b, o + 3, none⟩ = some (.pointer (some ⟨q, 0, none⟩))) (hq : InP w q (numK a)) :
  Calls Tryz.prog 187 #[.slice (some ⟨b, o, none⟩) 1 (cap + 1), .slice none 0 0] w fun r w' => (∃ g q, r = .returned (.pointer (some ⟨g, 0, none⟩)) /\ PR w' g q ⟨#[]⟩ true (.slice none 0 0) false 0 true ⟨#[]⟩ a) /\ Below w.heap.size w w' := by
 have hmm : ∀ w, (Instr.makeMap 318 none).run Tryz.prog w = .ok (.map (some w.heap.size)) (w.alloc (.map #[] 0)) := fun w => rfl
 have HL := Lib.hid hL
 obtain ⟨ic, gl, pv, wv, iq, il, iv⟩ := hq
 obtain ⟨ad, vc, rfl, _, _⟩ := id iv
 have IQ := Lib.hid iq
 have IL := Lib.hid il
 have IV := Lib.hid iv
 have K0 := Lib.hid c0
 have K1 := Lib.hid c1
 have K2 := Lib.hid c2
 have K3 := Lib.hid c3
 clear hL iq il iv c0 c1 c2 c3
 go_enter Tryz.func187, Tryz.ntmps187
 go_wp2_with fail
 refine (qDk ⟨#[]⟩ false none 0 0 _).mono ?_
 rintro e w1 ⟨⟨g, g', rfl, hg, hg', hp1⟩, hb1⟩
 have hB1 : Below w.heap.size w w1 := Below.trans (by go_grown) (hb1.mono (by go_size))
 have hmp : w1.heap[w.heap.size]? = some (.map #[] 0) := (hb1.block _ (by go_size)).trans (qH _ _ rfl)
 have HP1 := Lib.hid hp1
 have HB1 := Lib.hid hB1
 have HMP := Lib.hid hmp
 simp only [World.size_alloc] at hg hg'
 clear hb1 hB1 hp1 hmp
 go_wp2_with fail
 obtain ⟨m, hm⟩ : ∃ m, (numK a).length = m := ⟨_, rfl⟩
 obtain ⟨o5, ho5⟩ : ∃ o5 : List Value, o5 = [.slice (some ⟨b, o, none⟩) 1 (cap + 1), .pointer (some ⟨g, 0, none⟩), .pointer none, .string ⟨#[]⟩, .bool false] := ⟨_, rfl⟩
 have hgl := qC HP1.out.pt
 have hgl' := qC HP1.out.ch
 have hml := qC HMP.out
 have hz1 := HB1.out.size
 have HN := Lib.hid hm
 clear hm
 go_loopw [6] (fun ov wr => ∃ rb oc, Hid (Below w.heap.size w wr) /\ w1.heap.size <= rb /\ (
  (ov = .slice (some ⟨rb, 0, none⟩) 1 oc /\ Hid (wr.ownsRow w1.heap.size 325 5 (.slice (some ⟨rb, 0, none⟩) 1 oc) 1 o5) /\ Hid (wr.heap[w.heap.size]? = some (.map #[] 0)) /\ Hid (PR wr g g' ⟨#[]⟩ false (.slice none 0 0) false 0 false ⟨#[]⟩ 0)) \/
  (∃ j g2 q2 rv, j <= m /\ 2 <= oc /\ ov = .slice (some ⟨rb, 0, none⟩) 2 oc /\ Hid (RdB wr rb (o5 ++ [rv, .pointer (some ⟨g2, 0, none⟩), .pointer (some ⟨q, 0, none⟩), .string ⟨#[]⟩, .bool false])) /\ Hid (wr.heap[w.heap.size]? = some (.map #[] 0)) /\ Hid (PR wr g g' ⟨#[]⟩ false (.slice none 0 0) false 0 false ⟨#[]⟩ 0) /\ Hid (PRk wr g2 q2 a j) /\ Hid (qI w rv ((numK a).drop j)) /\ w1.heap.size <= g2 /\ w1.heap.size <= q2) \/
  (∃ g2 q2, ov = .slice (some ⟨rb, 0, none⟩) 1 oc /\ Hid (RdB wr rb o5) /\ Hid (wr.heap[w.heap.size]? = some (.map #[{ key := keyP q, val := .pointer (some ⟨g2, 0, none⟩), born := 0 }] 1)) /\ Hid (PR wr g g' ⟨#[]⟩ false (.slice none 0 0) false 0 false ⟨#[]⟩ 0) /\ Hid (PRk wr g2 q2 a m) /\ w1.heap.size <= g2 /\ w1.heap.size <= q2) \/
  (∃ ad c es ck, ov = .slice (some ⟨rb, 0, none⟩) 1 oc /\ Hid (RdB wr rb [.slice ad 0 c, .pointer (some ⟨g, 0, none⟩)]) /\ Hid (wr.heap[w.heap.size]? = some (.map es ck) /\ es.size ≠ 0) /\ Hid (PR wr g g' ⟨#[]⟩ true (.slice none 0 0) false 0 true ⟨#[]⟩ a))))
  (fun ov wr => qEb w.heap.size wr ov)
 case atStart =>
  refine ⟨w1.heap.size, 1, HB1.out.alloc HB1.out.size _, Nat.le_refl _, .inl ⟨rfl, ?_, ?_, PR.go HP1.out (qE _ _)⟩⟩
  ·refine ⟨by rw [ho5]; rfl, .inr ⟨w1.heap.size, 1, _, rfl, Nat.le_refl _, qH _ _ rfl, Nat.le_refl _, by decide, rfl, by rw [ho5]; rfl⟩⟩
  ·unfold Hid
   rw [old2 _ _ hml]
   exact HMP.out
 case round =>
  obtain ⟨rb, oc, HB, hrb, hc⟩ := hrel
  have hz := HB.out.size
  rcases hc with ⟨rfl, HO, HM, HG⟩ | ⟨j, g2, q2, rv, hj, hoc, rfl, HR, HM, HG, HK, HV, hg2, hq2⟩ | ⟨g2, q2, rfl, HR, HM, HG, HK, hg2, hq2⟩ | ⟨ad, c, es, ck, rfl, HR, HM, HG⟩
  ·have hR := RdB.of HO.out
   have x0 : wr.cell? ⟨rb, 0, none⟩ = some (.slice (some ⟨b, o, none⟩) 1 (cap + 1)) := hR.cell (by rw [ho5]; rfl)
   have x1 : wr.cell? ⟨rb, 1, none⟩ = some (.pointer (some ⟨g, 0, none⟩)) := hR.cell (by rw [ho5]; rfl)
   have x6 : wr.cell? ⟨g, 6, none⟩ = some (.int .i64 0) := qB HG.out.pt rfl
   have y0 : wr.cell? ⟨g, 0, none⟩ = some (.string ⟨#[]⟩) := qB HG.out.pt rfl
   have y1 : wr.cell? ⟨g, 1, none⟩ = some (.bool false) := qB HG.out.pt rfl
   have d3 := (HB.out.cell (by show b < w.heap.size; exact hb)).trans K3.out
   have hzb : b < wr.heap.size := by omega
   have hzr := hR.lt
   have hzg := qC HG.out.pt
   have HRD := Lib.hid (qCe rb 0 b o 0 (cap + 1) g wr x0 x1 x6)
   have HSP := Lib.hid fun W (hb : Below wr.heap.size wr W) => qHo g ⟨#[]⟩ false W (by rw [hb.cell (by exact hzg)]; exact y0) (by rw [hb.cell (by exact hzg)]; exact y1)
   clear hR
   go_wp2_with (first | (go_at_call 219; refine HRD.out.mono ?_; rintro e w' ⟨rfl, rfl⟩) | fail)
   go_region_held3 (fun W' => W'.cell? ⟨rb, 0, none⟩ = some (.slice (some ⟨b, o, none⟩) 1 (cap + 1)) /\ W'.cell? ⟨rb, 1, none⟩ = some (.pointer (some ⟨g, 0, none⟩)) /\ W'.cell? ⟨b, o + 3, none⟩ = some (.pointer (some ⟨q, 0, none⟩)) /\ Below wr.heap.size wr W')
    (first | exact ⟨x0, x1, d3, Below.refl _ _⟩ | exact ⟨x0, x1, d3, (Below.refl _ _).drew⟩ | exact k4 hzr hzb (by first | assumption | (go_grown; done)) x0 x1 d3)
    ((go_at_call 221; refine (HSP.out _ (by go_grown)).mono ?_; rintro e w2 ⟨rfl, hb2⟩; have HB2 : Below wr.heap.size wr w2 := (by refine Below.trans ?_ (hb2.mono (by go_size)); go_grown); have hz2 := HB2.size; first | (have zp : w2.heap[wr.heap.size]? = some (.cells #[.pointer none, .string ⟨#[]⟩, .bool false] 323 (0, 0)) := (hb2.block _ (by simp)).trans (qH _ _ (by simp)); have zq0 : w2.cell? ⟨wr.heap.size, 0, none⟩ = some (.pointer none) := qB zp rfl; have zq1 : w2.cell? ⟨wr.heap.size, 1, none⟩ = some (.string ⟨#[]⟩) := qB zp rfl; have zq2 : w2.cell? ⟨wr.heap.size, 2, none⟩ = some (.bool false) := qB zp rfl; have zf0 : w2.frozen? ⟨wr.heap.size, 0, none⟩ = false := qD zp; have zf1 : w2.frozen? ⟨wr.heap.size, 1, none⟩ = false := qD zp; have zf2 : w2.frozen? ⟨wr.heap.size, 2, none⟩ = false := qD zp; have hzp := qC zp; clear hb2) | clear hb2))
   all_goals rename_i hH
   all_goals
    first
     | (
       have hb3 := hH.2.2.2
       have hp3 : (((w2.setCell ⟨wr.heap.size, 0, none⟩ (.pointer (some ⟨q, 0, none⟩))).setCell ⟨wr.heap.size, 1, none⟩ (.string ⟨#[]⟩)).setCell ⟨wr.heap.size, 2, none⟩ (.bool false)).heap[wr.heap.size]? = some (Obj.cells #[.pointer (some ⟨q, 0, none⟩), .string ⟨#[]⟩, .bool false] 323 (0, 0)) := qJ (qJ (qJ zp))
       clear hH HB2 hz2 zq0 zq1 zq2 zf0 zf1 zf2 hzp
       generalize ((w2.setCell ⟨wr.heap.size, 0, none⟩ (.pointer (some ⟨q, 0, none⟩))).setCell ⟨wr.heap.size, 1, none⟩ (.string ⟨#[]⟩)).setCell ⟨wr.heap.size, 2, none⟩ (.bool false) = W3 at hb3 hp3 ⊢
       clear zp
       generalize hpp : wr.heap.size = p at hp3 ⊢
       have hpz := Nat.le_of_eq hpp
       clear hpp)
     | (
       have hb3 := hH.2.2.2
       have hp3 := qH (w := w2) (Obj.cells #[.pointer (some ⟨q, 0, none⟩), .string ⟨#[]⟩, .bool false] 323 (0, 0)) rfl
       have hpz := hz2
       clear hH HB2 hz2
       generalize w2.alloc (Obj.cells #[.pointer (some ⟨q, 0, none⟩), .string ⟨#[]⟩, .bool false] 323 (0, 0)) = W3 at hb3 hp3 ⊢
       generalize w2.heap.size = p at hp3 hpz ⊢)
   all_goals
    have hzp := qC hp3
    have p0 : W3.cell? ⟨p, 0, none⟩ = some (.pointer (some ⟨q, 0, none⟩)) := qB hp3 rfl
    have p1 : W3.cell? ⟨p, 1, none⟩ = some (.string ⟨#[]⟩) := qB hp3 rfl
    have p2 : W3.cell? ⟨p, 2, none⟩ = some (.bool false) := qB hp3 rfl
    have hm3 : W3.heap[w.heap.size]? = some (.map #[] 0) := (hb3.block _ (qC HM.out)).trans HM.out
    have hlk := qGt q ⟨#[]⟩ false w.heap.size W3 hm3
    have HB3 := Lib.hid (HB.out.trans (hb3.mono hz))
    have HHB := Lib.hid hb3
    have HP3 := Lib.hid hp3
    have HM3 := Lib.hid hm3
    clear hb3 hp3 hm3
    go_wp2_with fail
    have q1 : W3.cell? ⟨q, 1, none⟩ = some (.func (.func 159) #[] #[.pointer (some ⟨gl, 0, none⟩)]) := by
     rw [HB3.out.cell (p := ⟨q, 1, none⟩) (by exact qC IQ.out)]
     exact qB IQ.out rfl
    have hqz : q < W3.heap.size := Nat.lt_of_lt_of_le (qC IQ.out) HB3.out.size
    have HPA := Lib.hid fun W (hb : Below w.heap.size w W) => qJt gl (.slice ad (numK a).length vc) W ((hb.block _ (qC IL.out)).trans IL.out) ⟨_, _, _, rfl⟩
    have HFR := Lib.hid fun W => qDk ⟨#[]⟩ false none 0 0 W
    have HHO := Lib.hid (show W3.ownsRow w1.heap.size 325 5 (.slice (some ⟨rb, 0, none⟩) 1 oc) 1 o5 from ownT HO.out HHB.out)
    have hprb : p ≠ rb := by omega
    have hqrb : q ≠ rb := by have := qC IQ.out; omega
    go_region_held3 (fun W' => W'.cell? ⟨p, 0, none⟩ = some (.pointer (some ⟨q, 0, none⟩)) /\ W'.cell? ⟨p, 1, none⟩ = some (.string ⟨#[]⟩) /\ W'.cell? ⟨p, 2, none⟩ = some (.bool false) /\ W'.cell? ⟨q, 1, none⟩ = some (.func (.func 159) #[] #[.pointer (some ⟨gl, 0, none⟩)]))
     (first | exact ⟨p0, p1, p2, q1⟩ | exact k6 hzp hqz hprb hqrb (by go_grown) hgr6 p0 p1 p2 q1 | exact k5 hzp hqz (by first | assumption | (go_grown; done)) p0 p1 p2 q1)
     ((first
       | (go_at_call 159; refine (HPA.out _ HB3.out.drew).mono ?_; rintro e w' ⟨rfl, rfl⟩)
       | (go_at_call 218; refine (HFR.out _).mono ?_; rintro e w5 ⟨⟨g2, q2, rfl, hg2, hq2, hp5⟩, hb5⟩; have HB5 : Below W3.heap.size W3 w5 := (by refine Below.trans ?_ (hb5.mono (by go_size)); go_grown); have hz5 := HB5.size; have HP5 := Lib.hid hp5; clear hb5 hp5)
       | (obtain ⟨v6, w6, happ, ho6, hgr6⟩ := app1 326 325 _ 5 64 rfl infoRd rfl (by decide) (by decide) (w := w5.alloc (.cells #[.slice ad (numK a).length vc, .pointer (some ⟨g2, 0, none⟩), .pointer (some ⟨q, 0, none⟩), .string ⟨#[]⟩, .bool false] 325)) (ownT HHO.out (by go_grown)) (by go_size) [.slice ad (numK a).length vc, .pointer (some ⟨g2, 0, none⟩), .pointer (some ⟨q, 0, none⟩), .string ⟨#[]⟩, .bool false] rfl w5.heap.size (qH _ _ rfl) (by intro u hu; simp at hu; rcases hu with rfl | rfl | rfl | rfl | rfl <;> rfl) (by decide); refine qCJ rfl _ _ _ _ rfl _ _ rfl rfl happ ?_)))
   all_goals
    obtain ⟨rb6, oc6, rfl, hrb6, hoc6⟩ := qDN ho6
    have hz5' := HB5.size
    have hwp : (w5.alloc (.cells #[.slice ad (numK a).length vc, .pointer (some ⟨g2, 0, none⟩), .pointer (some ⟨q, 0, none⟩), .string ⟨#[]⟩, .bool false] 325)).heap.size = w5.heap.size + 1 := by simp
    have kp5 : ∀ i, i < w5.heap.size -> i ≠ rb -> w6.heap[i]? = w5.heap[i]? := fun i hi h1 => (hgr6.block i (by omega) (by simp [Value.ownBlock]; exact h1)).trans (old2 _ _ hi)
    have kp3 : ∀ i, i < W3.heap.size -> i ≠ rb -> w6.heap[i]? = W3.heap[i]? := fun i hi h1 => (kp5 i (by omega) h1).trans (HB5.block i hi)
    have kpr : ∀ i, i < wr.heap.size -> i ≠ rb -> w6.heap[i]? = wr.heap[i]? := fun i hi h1 => (kp3 i (Nat.lt_of_lt_of_le hi HHB.out.size) h1).trans (HHB.out.block i hi)
    have hmr : w.heap.size ≠ rb := by omega
    have hgr : g ≠ rb := fun e => qAY HO.out HG.out.pt (by decide) (by rw [e]; rfl)
    have hgr' : g' ≠ rb := fun e => qAY HO.out HG.out.ch (by decide) (by rw [e]; rfl)
    have hz13 : w1.heap.size <= W3.heap.size := by have := HHB.out.size; omega
    have HB6 : Below w.heap.size w w6 := (HB3.out.trans (HB5.mono HB3.out.size)).trans (((Below.refl w5.heap.size w5).alloc (Nat.le_refl _) _).mono (by omega) |>.trans ((Below.refl w.heap.size _).grown hgr6 (by omega) (fun k hk => by have := ((ownT HHO.out (show Below W3.heap.size W3 w5 from HB5)).lt k hk).1; omega)))
    refine ⟨?_, ?_⟩
    ·repeat apply Exists.intro
     refine ⟨⟨rb6, oc6, HB6, hrb6, .inr (.inl ⟨0, g2, q2, .slice ad (numK a).length vc, Nat.zero_le _, hoc6, rfl, RdB.of ho6, (kpr _ (by omega) hmr).trans HM.out, ⟨(kpr _ hzg hgr).trans HG.out.pt, (kpr _ (qC HG.out.ch) hgr').trans HG.out.ch⟩, ?_, IV.out, ?_, ?_⟩)⟩, rfl⟩
     ·unfold Hid PRk
      rw [if_neg (by have := qHT a; omega), if_pos rfl]
      exact ⟨(kp5 _ (qC HP5.out.pt) (by simp at hg2; omega)).trans HP5.out.pt, (kp5 _ (qC HP5.out.ch) (by simp at hq2; omega)).trans HP5.out.ch⟩
     ·simp at hg2
      omega
     ·simp at hq2
      omega
    ·have hc5 := (RdB.of ho6).cell (i := 5) (by rw [ho5]; rfl)
     have := qMD a
     refine Nat.lt_of_le_of_lt (Nat.le_of_eq (qCx _ _ _ _ _ hc5)) (Nat.lt_of_lt_of_le ?_ (Nat.le_of_eq (qGj _ _ _ _ _ HM.out).symm))
     omega
  ·--B
   have y5 : wr.cell? ⟨rb, 5, none⟩ = some rv := HR.out.cell (by rw [ho5]; rfl)
   have y6 : wr.cell? ⟨rb, 6, none⟩ = some (.pointer (some ⟨g2, 0, none⟩)) := HR.out.cell (by rw [ho5]; rfl)
   have y7 : wr.cell? ⟨rb, 7, none⟩ = some (.pointer (some ⟨q, 0, none⟩)) := HR.out.cell (by rw [ho5]; rfl)
   have y8 : wr.cell? ⟨rb, 8, none⟩ = some (.string ⟨#[]⟩) := HR.out.cell (by rw [ho5]; rfl)
   have y9 : wr.cell? ⟨rb, 9, none⟩ = some (.bool false) := HR.out.cell (by rw [ho5]; rfl)
   have f5 := HR.out.froz 5
   have hzr := HR.out.lt
   by_cases hjm : j = m
   ·subst hjm
    obtain ⟨ad5, cap5, rfl⟩ : ∃ ad5 cap5, rv = .slice ad5 ((numK a).drop j).length cap5 := ⟨_, _, HV.out.choose_spec.choose_spec.1⟩
    rw [show ((numK a).drop j).length = 0 by rw [List.length_drop]; have := HN.out; omega] at y5 HR
    have HRD := Lib.hid (qC6 rb 5 cap5 ad5 wr y5)
    obtain ⟨W5, hup, hm5, hg5⟩ := pupd' q (.pointer (some ⟨g2, 0, none⟩)) w.heap.size wr.drew HM.out
    have hmr : w.heap.size ≠ rb := by omega
    have hz5 : wr.heap.size <= W5.heap.size := hg5.size
    have kp : ∀ {i : Nat}, i < wr.heap.size -> i ≠ w.heap.size -> W5.heap[i]? = wr.heap[i]? := fun {i} hi h1 => hg5.block i hi (fun e => h1 (by injection e with e))
    have HR5 := Lib.hid ((HR.out.left).go (kp hzr (Ne.symm hmr)))
    have HM5 := Lib.hid hm5
    have HB5 : Hid (Below w.heap.size w W5) := HB.out.trans ⟨hg5.os, hg5.tape, hg5.output, hg5.size, fun i hi => kp (by omega) (by omega)⟩
    have HG5 : Hid (PR W5 g g' ⟨#[]⟩ false (.slice none 0 0) false 0 false ⟨#[]⟩ 0) := ⟨(kp (qC HG.out.pt) (by omega)).trans HG.out.pt, (kp (qC HG.out.ch) (by omega)).trans HG.out.ch⟩
    have HK5 : Hid (PRk W5 g2 q2 a j) := HK.out.keep (kp HK.out.lt.1 (by omega)) (kp HK.out.lt.2 (by omega))
    have hc5 := HR5.out.cell (i := 0) (v := .slice (some ⟨b, o, none⟩) 1 (cap + 1)) (by rw [ho5]; rfl)
    have hoc1 : 1 <= oc := by omega
    clear hj HV hm5 hg5 kp
    go_wp2_with (go_at_call 219; refine HRD.out.mono ?_; rintro e w' ⟨rfl, rfl⟩)
    go_region
    all_goals go_wp2_with fail
    all_goals
     refine ⟨?_, ?_⟩
     ·exact ⟨rb, oc, HB5, hrb, .inr (.inr (.inl ⟨g2, q2, rfl, HR5, HM5, HG5, HK5, hg2, hq2⟩))⟩
     ·refine Nat.lt_of_le_of_lt (Nat.le_of_eq (qDo _ _ _ _ _ _ _ (by simp) HM5.out hc5)) (Nat.lt_of_lt_of_le ?_ (Nat.le_of_eq (qCx _ _ _ _ _ y5).symm))
      omega
   ·have hj' : j < (numK a).length := by have := HN.out; omega
    obtain ⟨ad5, cap5, rfl, hc5, hm5, hx5⟩ := id HV.out
    obtain ⟨b5, p5, rfl, hb5, hxc⟩ := hx5 (by rw [List.length_drop]; omega)
    have hx := hxc 0 (by rw [List.length_drop]; omega)
    simp only [Nat.zero_mul, Nat.add_zero, List.getElem_drop] at hx
    obtain ⟨l, hl⟩ : ∃ l, (numK a).length = j + l + 1 := ⟨(numK a).length - j - 1, by omega⟩
    have hdl : ((numK a).drop j).length = l + 1 := by rw [List.length_drop]; omega
    obtain ⟨c, rfl⟩ : ∃ c, cap5 = c + 1 := ⟨cap5 - 1, by omega⟩
    rw [hdl] at y5 HR HV
    have HT := Lib.hid (qJe HV.out)
    rw [List.drop_drop] at HT
    have HAD := Lib.hid fun W (hb : Below wr.heap.size wr W) => add_k g2 q2 a h0 h1 j hj' W (KL.below (KL.below HL.out HB.out) hb) (HK.out.go hb)
    unfold Tk.V tokV at HAD
    generalize (numK a)[j] = x at hx HAD
    obtain ⟨z0, z1, z2, z3⟩ := hx
    replace z0 := (HB.out.cell (by exact hb5)).trans z0
    replace z1 := (HB.out.cell (by exact hb5)).trans z1
    replace z2 := (HB.out.cell (by exact hb5)).trans z2
    replace z3 := (HB.out.cell (by exact hb5)).trans z3
    have hzb5 : b5 < wr.heap.size := by omega
    have hx6 : wr.cell? ⟨g2, 6, none⟩ = some (.int .i64 0) := by
     obtain ⟨c, h1, h2⟩ := HK.out.pt
     exact qB h1 h2
    have HRD := Lib.hid (qCe rb 5 b5 p5 l (c + 1) g2 wr y5 y6 hx6)
    have hrg : rb ≠ g2 /\ rb ≠ q2 := by
     obtain ⟨c1, h1, _⟩ := HK.out.pt
     obtain ⟨c2, h2⟩ := HK.out.ch
     obtain ⟨c3, h3, _⟩ := HR.out
     constructor
     ·rintro rfl
      rw [h3] at h1
      injection h1 with h1
      injection h1 with _ h1 _
      exact absurd h1 (by decide)
     ·rintro rfl
      rw [h3] at h2
      injection h2 with h2
      injection h2 with _ h2 _
      exact absurd h2 (by decide)
    clear hc5 hm5 hx5 hxc hj' hx6 hdl y7 y8 y9 HV
    go_wp2_with (go_at_call 219; refine HRD.out.mono ?_; rintro e w' ⟨rfl, rfl⟩)
    go_region_with (go_at_call 220; refine (HAD.out _ (Below.refl _ _).drew).mono ?_; rintro e w3 ⟨rfl, hp3, hf3⟩; have hr3 := HR.out.go (hf3.block _ hzr hrg.1 hrg.2); have v5 := hr3.cell (i := 5) (v := .slice (some ⟨b5, p5, none⟩) (l + 1) (c + 1)) (by rw [ho5]; rfl); have v6 := hr3.froz 5; have hz3 := hr3.lt; have HR3 := Lib.hid hr3; have HP3 := Lib.hid hp3; have HF3 := Lib.hid hf3; clear hr3 hp3 hf3)
    all_goals go_wp2_with fail
    all_goals
     have HB3 : Hid (Below w.heap.size w w3) := HB.out.trans ((Below.refl _ _).drew.trans (HF3.out.to (by omega) (by omega) (by show w.heap.size <= wr.heap.size; omega)))
     generalize hsl : (if c = 0 then some (⟨b5, p5, none⟩ : Addr) else some ⟨b5, p5 + 4, none⟩) = sl at HT ⊢
     have hR4 := HR3.out.set (i := 5) (.slice sl l c) (by rw [ho5]; simp)
     have hz : wr.heap.size <= w3.heap.size := HF3.out.size
     have kp : ∀ {i : Nat}, i < wr.heap.size -> i ≠ rb -> i ≠ g2 -> i ≠ q2 -> (w3.setCell ⟨rb, 5, none⟩ (.slice sl l c)).heap[i]? = wr.heap[i]? := fun {i} hi h1 h2 h3 => (Below.heap_setCell _ _ _ _ h1).trans (HF3.out.block i hi h2 h3)
     have hgr : g ≠ rb /\ g' ≠ rb := by
      obtain ⟨c3, h3, _⟩ := HR.out
      constructor
      ·rintro rfl
       have h1 := HG.out.pt
       rw [h3] at h1
       injection h1 with h1
       injection h1 with _ h1 _
       exact absurd h1 (by decide)
      ·rintro rfl
       have h1 := HG.out.ch
       rw [h3] at h1
       injection h1 with h1
       injection h1 with _ h1 _
       exact absurd h1 (by decide)
     refine ⟨?_, ?_⟩
     ·refine ⟨rb, oc, HB3.out.setCell (by show w.heap.size <= rb; omega) _, hrb, .inr (.inl ⟨j + 1, g2, q2, .slice sl l c, by have := HN.out; omega, hoc, rfl, ?_, ?_, ?_, ?_, HT, hg2, hq2⟩)⟩
      ·rw [ho5] at hR4 ⊢
       exact hR4
      ·exact (kp (qC HM.out) (by omega) (by omega) (by omega)).trans HM.out
      ·exact ⟨(kp (qC HG.out.pt) hgr.1 (by omega) (by omega)).trans HG.out.pt, (kp (qC HG.out.ch) hgr.2 (by omega) (by omega)).trans HG.out.ch⟩
      ·exact HP3.out.keep (Below.heap_setCell _ _ _ _ (Ne.symm hrg.1)) (Below.heap_setCell _ _ _ _ (Ne.symm hrg.2))
     ·have hc5 : (w3.setCell ⟨rb, 5, none⟩ (.slice sl l c)).cell? ⟨rb, 5, none⟩ = some (.slice sl l c) := hR4.cell (by rw [ho5]; rfl)
      refine Nat.lt_of_le_of_lt (Nat.le_of_eq (qCx _ _ _ _ _ hc5)) (Nat.lt_of_lt_of_le ?_ (Nat.le_of_eq (qCx _ _ _ _ _ y5).symm))
      omega
  ·--C
   have hR := HR.out
   have x0 : wr.cell? ⟨rb, 0, none⟩ = some (.slice (some ⟨b, o, none⟩) 1 (cap + 1)) := hR.cell (by rw [ho5]; rfl)
   have x1 : wr.cell? ⟨rb, 1, none⟩ = some (.pointer (some ⟨g, 0, none⟩)) := hR.cell (by rw [ho5]; rfl)
   have x6 : wr.cell? ⟨g, 6, none⟩ = some (.int .i64 0) := qB HG.out.pt rfl
   have y0 : wr.cell? ⟨g, 0, none⟩ = some (.string ⟨#[]⟩) := qB HG.out.pt rfl
   have y1 : wr.cell? ⟨g, 1, none⟩ = some (.bool false) := qB HG.out.pt rfl
   have d3 := (HB.out.cell (by show b < w.heap.size; exact hb)).trans K3.out
   have hzb : b < wr.heap.size := by omega
   have hzr := hR.lt
   have hzg := qC HG.out.pt
   have HRD := Lib.hid (qCe rb 0 b o 0 (cap + 1) g wr x0 x1 x6)
   have HSP := Lib.hid fun W (hb : Below wr.heap.size wr W) => qHo g ⟨#[]⟩ false W (by rw [hb.cell (by exact hzg)]; exact y0) (by rw [hb.cell (by exact hzg)]; exact y1)
   clear hR
   go_wp2_with (first | (go_at_call 219; refine HRD.out.mono ?_; rintro e w' ⟨rfl, rfl⟩) | fail)
   go_region_held3 (fun W' => W'.cell? ⟨rb, 0, none⟩ = some (.slice (some ⟨b, o, none⟩) 1 (cap + 1)) /\ W'.cell? ⟨rb, 1, none⟩ = some (.pointer (some ⟨g, 0, none⟩)) /\ W'.cell? ⟨b, o + 3, none⟩ = some (.pointer (some ⟨q, 0, none⟩)) /\ Below wr.heap.size wr W')
    (first | exact ⟨x0, x1, d3, Below.refl _ _⟩ | exact ⟨x0, x1, d3, (Below.refl _ _).drew⟩ | exact k4 hzr hzb (by first | assumption | (go_grown; done)) x0 x1 d3)
    ((go_at_call 221; refine (HSP.out _ (by go_grown)).mono ?_; rintro e w2 ⟨rfl, hb2⟩; have HB2 : Below wr.heap.size wr w2 := (by refine Below.trans ?_ (hb2.mono (by go_size)); go_grown); have hz2 := HB2.size; first | (have zp : w2.heap[wr.heap.size]? = some (.cells #[.pointer none, .string ⟨#[]⟩, .bool false] 323 (0, 0)) := (hb2.block _ (by simp)).trans (qH _ _ (by simp)); have zq0 : w2.cell? ⟨wr.heap.size, 0, none⟩ = some (.pointer none) := qB zp rfl; have zq1 : w2.cell? ⟨wr.heap.size, 1, none⟩ = some (.string ⟨#[]⟩) := qB zp rfl; have zq2 : w2.cell? ⟨wr.heap.size, 2, none⟩ = some (.bool false) := qB zp rfl; have zf0 : w2.frozen? ⟨wr.heap.size, 0, none⟩ = false := qD zp; have zf1 : w2.frozen? ⟨wr.heap.size, 1, none⟩ = false := qD zp; have zf2 : w2.frozen? ⟨wr.heap.size, 2, none⟩ = false := qD zp; have hzp := qC zp; clear hb2) | clear hb2))
   all_goals rename_i hH
   all_goals
    first
     | (
       have hb3 := hH.2.2.2
       have hp3 : (((w2.setCell ⟨wr.heap.size, 0, none⟩ (.pointer (some ⟨q, 0, none⟩))).setCell ⟨wr.heap.size, 1, none⟩ (.string ⟨#[]⟩)).setCell ⟨wr.heap.size, 2, none⟩ (.bool false)).heap[wr.heap.size]? = some (Obj.cells #[.pointer (some ⟨q, 0, none⟩), .string ⟨#[]⟩, .bool false] 323 (0, 0)) := qJ (qJ (qJ zp))
       clear hH HB2 hz2 zq0 zq1 zq2 zf0 zf1 zf2 hzp
       generalize ((w2.setCell ⟨wr.heap.size, 0, none⟩ (.pointer (some ⟨q, 0, none⟩))).setCell ⟨wr.heap.size, 1, none⟩ (.string ⟨#[]⟩)).setCell ⟨wr.heap.size, 2, none⟩ (.bool false) = W3 at hb3 hp3 ⊢
       clear zp
       generalize hpp : wr.heap.size = p at hp3 ⊢
       have hpz := Nat.le_of_eq hpp
       clear hpp)
     | (
       have hb3 := hH.2.2.2
       have hp3 := qH (w := w2) (Obj.cells #[.pointer (some ⟨q, 0, none⟩), .string ⟨#[]⟩, .bool false] 323 (0, 0)) rfl
       have hpz := hz2
       clear hH HB2 hz2
       generalize w2.alloc (Obj.cells #[.pointer (some ⟨q, 0, none⟩), .string ⟨#[]⟩, .bool false] 323 (0, 0)) = W3 at hb3 hp3 ⊢
       generalize w2.heap.size = p at hp3 hpz ⊢)
   all_goals
    have hzp := qC hp3
    have p0 : W3.cell? ⟨p, 0, none⟩ = some (.pointer (some ⟨q, 0, none⟩)) := qB hp3 rfl
    have p1 : W3.cell? ⟨p, 1, none⟩ = some (.string ⟨#[]⟩) := qB hp3 rfl
    have p2 : W3.cell? ⟨p, 2, none⟩ = some (.bool false) := qB hp3 rfl
    have hm3 := (hb3.block _ (qC HM.out)).trans HM.out
    have hlk := qKY q (.pointer (some ⟨g2, 0, none⟩)) w.heap.size 1 W3 hm3
    have HB3 := Lib.hid (HB.out.trans (hb3.mono hz))
    have HHB := Lib.hid hb3
    have hK := HK.out
    unfold PRk at hK
    rw [if_pos HN.out.symm] at hK
    have HJ := Lib.hid fun W (hb : Below wr.heap.size wr W) => join_one g g' g2 q2 ⟨#[]⟩ a W (HG.out.go hb) (PR.go hK hb) ⟨by omega, by omega, by omega, by omega⟩
    have e0 : W3.cell? ⟨rb, 0, none⟩ = some (.slice (some ⟨b, o, none⟩) 1 (cap + 1)) := (hb3.cell (p := ⟨rb, 0, none⟩) (by exact hzr)).trans x0
    have e1 : W3.cell? ⟨rb, 1, none⟩ = some (.pointer (some ⟨g, 0, none⟩)) := (hb3.cell (p := ⟨rb, 1, none⟩) (by exact hzr)).trans x1
    have hzr3 : rb < W3.heap.size := Nat.lt_of_lt_of_le hzr hb3.size
    have hrg : rb ≠ g /\ rb ≠ g' := by
     obtain ⟨c3, h3, _⟩ := HR.out
     constructor
     ·rintro rfl
      have h1 := HG.out.pt
      rw [h3] at h1
      injection h1 with h1
      injection h1 with _ h1 _
      exact absurd h1 (by decide)
     ·rintro rfl
      have h1 := HG.out.ch
      rw [h3] at h1
      injection h1 with h1
      injection h1 with _ h1 _
      exact absurd h1 (by decide)
    have HR3 := Lib.hid (HR.out.go (hb3.block _ hzr))
    have HM3 := Lib.hid hm3
    clear hb3 hp3 hm3 hK
    go_wp2_with (go_at_call 222; refine (HJ.out _ HHB.out).mono ?_; rintro e w4 ⟨rfl, hp4, hf4⟩; have hr4 := HR3.out.go (hf4.block _ hzr3 hrg.1 hrg.2); have e4 := hr4.cell (i := 0) (v := .slice (some ⟨b, o, none⟩) 1 (cap + 1)) (by rw [ho5]; rfl); have f4 := hr4.froz 0; have hz4 := hr4.lt; have HR4 := Lib.hid hr4; have HP4 := Lib.hid hp4; have HF4 := Lib.hid hf4; clear hr4 hp4 hf4)
    generalize hsl : (if cap = 0 then some (⟨b, o, none⟩ : Addr) else some ⟨b, o + 4, none⟩) = sl
    have hR5 := HR4.out.set (i := 0) (.slice sl 0 cap) (by rw [ho5]; simp)
    have hgm : g ≠ w.heap.size /\ g' ≠ w.heap.size := ⟨by omega, by omega⟩
    have HB4 : Below w.heap.size w w4 := HB3.out.trans (HF4.out.to (by omega) (by omega) HB3.out.size)
    refine ⟨?_, ?_⟩
    ·refine ⟨rb, oc, HB4.setCell (p := ⟨rb, 0, none⟩) (by show w.heap.size <= rb; omega) _, hrb, .inr (.inr (.inr ⟨sl, cap, #[{ key := keyP q, val := .pointer (some ⟨g2, 0, none⟩), born := 0 }], 1, rfl, ?_, ⟨?_, by simp⟩, ?_⟩))⟩
     ·rw [ho5] at hR5
      exact RdB.left (f := [.slice sl 0 cap, .pointer (some ⟨g, 0, none⟩)]) hR5
     ·exact (Below.heap_setCell _ _ _ _ (by show w.heap.size ≠ rb; omega)).trans ((HF4.out.block _ (qC HM3.out) (Ne.symm hgm.1) (Ne.symm hgm.2)).trans HM3.out)
     ·exact ⟨(Below.heap_setCell _ _ _ _ (Ne.symm hrg.1)).trans HP4.out.pt, (Below.heap_setCell _ _ _ _ (Ne.symm hrg.2)).trans HP4.out.ch⟩
    ·have hm5 : (w4.setCell ⟨rb, 0, none⟩ (.slice sl 0 cap)).heap[w.heap.size]? = some (.map #[{ key := keyP q, val := .pointer (some ⟨g2, 0, none⟩), born := 0 }] 1) := (Below.heap_setCell _ _ _ _ (by show w.heap.size ≠ rb; omega)).trans ((HF4.out.block _ (qC HM3.out) (Ne.symm hgm.1) (Ne.symm hgm.2)).trans HM3.out)
     refine Nat.lt_of_le_of_lt (Nat.le_of_eq (qDo _ _ _ _ _ _ _ (by simp) hm5 (hR5.cell (i := 0) (by rw [ho5]; rfl)))) (Nat.lt_of_lt_of_le ?_ (Nat.le_of_eq (qDo _ _ _ _ _ _ _ (by simp) HM.out x0).symm))
     omega
  ·--D
   have e0 : wr.cell? ⟨rb, 0, none⟩ = some (.slice ad 0 c) := HR.out.cell rfl
   have e1 : wr.cell? ⟨rb, 1, none⟩ = some (.pointer (some ⟨g, 0, none⟩)) := HR.out.cell rfl
   have hzr := HR.out.lt
   have HRD := Lib.hid (qC6 rb 0 c ad wr e0)
   go_wp2_with (go_at_call 219; refine HRD.out.mono ?_; rintro e w' ⟨rfl, rfl⟩)
   go_returns
   refine ⟨⟨g, g', rfl, HG.out⟩, HB.out⟩
end Go.Proofs.YtgjmbjahgcndnaaGreatDoor
