/- Macro: a text of tokens alone as an inner text. Macro: what puts arguments into a text: a parameter of one name. Macro: a text of tokens filled. -/
import Derived.Test.YtgjmbjahgcndnaaGreatDoorPut43
import Derived.Test.YtgjmbjahgcndnaaGreatDoorPut31
import Derived.Test.YtgjmbjahgcndnaaGreatDoorPut34
namespace Go.Proofs.YtgjmbjahgcndnaaGreatDoor
open Go.RowKit

set_option maxHeartbeats 2000000 in
theorem count_any (b o cap : Nat) (ts : List Tk) (w : World) (h : PReads w (.slice (some ⟨b, o, none⟩) ts.length cap) ts) (h0 : 0 < ts.length) (hn : ts.length ≤ 64) :
    Calls Tryz.prog 157 #[.slice (some ⟨b, o, none⟩) ts.length cap] w fun r w' => r = .returned (.int .i64 ts.length) ∧ Below w.heap.size w w' := by
  obtain ⟨_, _, he, hlc, hcm, hcl⟩ := id h
  injection he with he1 _ he3
  subst he1 he3
  obtain ⟨b', o', he, hbl, hcell⟩ := hcl h0
  injection he with he
  injection he with he1 he2 _
  subst he1 he2
  have HC := Lib.hid hcell
  clear hcl hcell h
  go_enter Tryz.func157, Tryz.ntmps157
  go_wp2_with fail
  go_loopw [3, 8] (fun nv iv wr => ∃ k : Nat, k ≤ ts.length ∧ nv = .int .i64 k ∧ iv = .int .i64 k ∧ Hid (Below w.heap.size w wr)) (fun _ iv _ => ts.length - (intOf iv).toNat)
  case atStart => exact ⟨0, Nat.zero_le _, rfl, rfl, Below.refl _ _⟩
  case round =>
    obtain ⟨k, hk, rfl, rfl, HB⟩ := hrel
    by_cases hlt : k < ts.length
    · have hk' : (k : Int) < ts.length := by omega
      have hk64 : ¬ (64 : Int) < k := by omega
      obtain ⟨k0, k1, k2, k3⟩ := HC.out k hlt
      have hz := HB.out.size
      replace k0 := (HB.out.cell (by show b < w.heap.size; exact hbl)).trans k0
      replace k1 := (HB.out.cell (by show b < w.heap.size; exact hbl)).trans k1
      replace k2 := (HB.out.cell (by show b < w.heap.size; exact hbl)).trans k2
      replace k3 := (HB.out.cell (by show b < w.heap.size; exact hbl)).trans k3
      have hb2 : b < wr.heap.size := by omega
      obtain ⟨x, hx⟩ : ∃ x, ts[k]'hlt = x := ⟨_, rfl⟩
      rw [hx] at k0 k1 k2
      clear hx
      obtain ⟨xk, xn, xt⟩ := x
      simp only at k0 k1 k2
      go_wp2_with fail
      exact ⟨⟨k + 1, by omega, by go_num, by go_num, HB.out.alloc hz _⟩, by simp [intOf]; omega⟩
    · obtain rfl : k = ts.length := by omega
      have hk' : ¬ ((ts.length : Nat) : Int) < ts.length := by omega
      have hmin : min (ts.length : Int) 65 = ts.length := by omega
      go_wp2_with fail
      go_ret
      exact ⟨rfl, HB.out⟩

theorem once_any (fv : Value) (f : FuncId) (caps : Array Value) (hf : fv = .func (.func f) #[] caps) (w : World) :
    Calls Tryz.prog 160 #[fv] w fun r w' => (∃ a b, r = .returned (.func (.func 191) #[] #[.pointer (some ⟨a, 0, none⟩), .pointer (some ⟨b, 0, none⟩)])) ∧ Below w.heap.size w w' := by
  subst hf
  go_enter Tryz.func160, Tryz.ntmps160
  go_wp2_with fail
  go_returns
  exact ⟨⟨_, _, rfl⟩, by go_grown⟩

theorem row_mono {W : World} {A B n size : Nat} {e : TypeId} {v : Value} {xs : List Value} (h : W.ownsRow A e size v n xs) (hB : B ≤ A) : W.ownsRow B e size v n xs := by
  refine ⟨h.1, ?_⟩
  rcases h.2 with h0 | ⟨g, cap, cur, hv, hg, rest⟩
  · exact .inl h0
  · exact .inr ⟨g, cap, cur, hv, Nat.le_trans hB hg, rest⟩
/-- An inner text that is tokens alone. -/
structure InT (W : World) (B : Nat) (q : Nat) (ts : List Tk) : Prop where
  ex : ∃ c gl v wv, W.heap[q]? = some (.cells #[.int .i64 c, .func (.func 159) #[] #[.pointer (some ⟨gl, 0, none⟩)], wv] 228 (0, 0)) ∧ W.heap[gl]? = some (.cells #[v] 143 (0, 0)) ∧ W.ownsRow B 180 4 v ts.length (tkCs ts)

set_option maxHeartbeats 2000000 in
theorem enclose_any (v : Value) (ts : List Tk) (w : World) (h : PReads w v ts) (h0 : 0 < ts.length) (hn : ts.length ≤ 64) :
    Calls Tryz.prog 127 #[v] w fun r w' => (∃ q, r = .returned (.pointer (some ⟨q, 0, none⟩)) ∧ w.heap.size ≤ q ∧ InT w' w.heap.size q ts) ∧ Below w.heap.size w w' := by
  obtain ⟨ad, cap, rfl, hlc, hcm, hcl⟩ := id h
  obtain ⟨b, o, rfl, hbl, hcell⟩ := hcl h0
  have HCN := Lib.hid fun W (hb : Below w.heap.size w W) => count_any b o cap ts W (h.below hb (Nat.le_refl _)) h0 hn
  have HFL := Lib.hid fun W (hb : Below w.heap.size w W) => flat_any b o cap ts W (h.below hb (Nat.le_refl _)) h0 (by omega)
  obtain ⟨k0, k1, k2, k3⟩ := hcell 0 h0
  simp only [Nat.zero_mul, Nat.add_zero] at k0 k1 k2 k3
  have hz : ((ts.length : Int) == 0) = false := beq_eq_false_iff_ne.2 (by omega)
  have h64 : (ts.length : Int) ≤ 64 := by omega
  clear hcl hcell h
  go_enter Tryz.func127, Tryz.ntmps127
  obtain ⟨⟨xk, xn, xt⟩, hx⟩ : ∃ x, ts[0]'h0 = x := ⟨_, rfl⟩
  rw [hx] at k0 k1 k2
  simp only at k0 k1 k2
  clear hx
  obtain ⟨m, hm⟩ : ∃ m, ts.length = m := ⟨_, rfl⟩
  have HM := Lib.hid hm
  rw [hm] at h0 hn hlc HCN HFL hz h64 ⊢
  clear hm
  go_wp2_with fail
  all_goals
    refine (HCN.out _ (oalloc _ _)).mono ?_
    rintro e w1 ⟨rfl, hb1⟩
    obtain ⟨hB1, hz1, xr⟩ := box_keep hb1
    have y0 : w1.cell? ⟨w.heap.size, 0, none⟩ = some (.slice (some ⟨b, o, none⟩) m cap) := blk_cell xr rfl
    have HB1 := Lib.hid hB1
    have XR := Lib.hid xr
    clear hb1 hB1 xr HCN
    go_wp2_with fail
    refine (HFL.out _ HB1.out).mono ?_
    rintro e w2 ⟨⟨v, rfl, hrow⟩, hb2⟩
    obtain ⟨la, lc, rfl⟩ := row_shape hrow
    have xr2 := (hb2.block _ hz1).trans XR.out
    have f0 : w2.frozen? ⟨w.heap.size, 0, none⟩ = false := blk_froz xr2
    have y2 : w2.cell? ⟨w.heap.size, 0, none⟩ = some (.slice (some ⟨b, o, none⟩) m cap) := blk_cell xr2 rfl
    have hz2 := blk_lt xr2
    have HB2 := Lib.hid (HB1.out.trans (hb2.mono HB1.out.size))
    have HRW := Lib.hid hrow
    have XR2 := Lib.hid xr2
    clear hb2 xr2 hrow HFL y0
    go_wp2_with fail
    refine (once_any _ _ _ rfl _).mono ?_
    rintro e w3 ⟨⟨pa, pb, rfl⟩, hb3⟩
    have HB3 := Lib.hid hb3
    clear hb3
    go_wp2_with fail
    go_ret
    have hz12 : w.heap.size ≤ w1.heap.size := HB1.out.size
    have xb := blk_set (i := 0) (v := .slice la m lc) XR2.out
    have hr2 := HRW.out.kept (gset w2 w.heap.size 0 (.slice la m lc)) (.inr (fun e => by have := (HRW.out.lt _ e).1; omega))
    have hB3 := (HB2.out.setCell (p := ⟨w.heap.size, 0, none⟩) (Nat.le_refl _) (.slice la m lc)).trans (HB3.out.mono (by simpa using HB2.out.size))
    refine ⟨⟨_, rfl, hB3.size, ⟨_, w.heap.size, .slice la m lc, _, new_at _ _ rfl, ?_, ?_⟩⟩, hB3.alloc hB3.size _⟩
    · rw [old2 _ _ (Nat.lt_of_lt_of_le (by simpa using hz2) HB3.out.size), HB3.out.block _ (by simpa using hz2)]
      exact xb
    · rw [HM.out]
      exact row_mono (Sc.owns_below (Sc.owns_below hr2 HB3.out (Nat.le_refl _)) (oalloc _ _) (Nat.le_refl _)) hz12

end Go.Proofs.YtgjmbjahgcndnaaGreatDoor

namespace Go.Proofs.YtgjmbjahgcndnaaGreatDoor
open Go.RowKit

set_option maxHeartbeats 2000000 in
/-- The only name of a row, looked for. -/
theorem index_one (b o cap : Nat) (p s : ByteArray) (w : World) (c0 : w.cell? ⟨b, o, none⟩ = some (.string p)) :
    Calls Tryz.prog 234 #[.slice (some ⟨b, o, none⟩) 1 cap, .string s] w fun r w' => r = .returned (.int .i64 (if (s.toList == p.toList) = true then 0 else -1)) ∧ w = w' := by
  by_cases h : (s.toList == p.toList) = true
  · rw [if_pos h]
    go_enter Tryz.func234, Tryz.ntmps234
    go_wp2_with fail
    refine wp_loop_rounds 2 ?_
    rw [rounds_succ]
    go_wp2_with fail
    go_returns
    exact ⟨rfl, rfl⟩
  · rw [if_neg h]
    have h' : (s.toList == p.toList) = false := by simpa using h
    clear h
    go_enter Tryz.func234, Tryz.ntmps234
    go_wp2_with fail
    refine wp_loop_rounds 2 ?_
    rw [rounds_succ]
    go_wp2_with fail
    rw [rounds_succ]
    go_wp2_with fail
    go_returns
    exact ⟨rfl, rfl⟩

/-- A part that is a token. -/
def partV (x : Tk) : Value := .agg #[.int .i64 x.k, .int .i64 x.n, .string x.t, .pointer none]
def isNm (nm : ByteArray) (x : Tk) : Bool := x.k == 1 && x.t.toList == nm.toList

set_option maxHeartbeats 2000000 in
theorem param_any (ps b o cap : Nat) (p : ByteArray) (x : Tk) (w : World) (hps : w.heap[ps]? = some (.cells #[.slice (some ⟨b, o, none⟩) 1 cap] 29 (0, 0))) (c0 : w.cell? ⟨b, o, none⟩ = some (.string p)) :
    Calls Tryz.prog 233 #[partV x, .pointer (some ⟨ps, 0, none⟩)] w fun r w' => r = .returned (.int .i64 (if isNm p x = true then 0 else -1)) ∧ Below w.heap.size w w' := by
  have hb : b < w.heap.size := World.block_lt_of_cell? w _ c0
  have HW := Lib.hid fun W => mword_any x.k x.n x.t W
  have hz := blk_lt hps
  have HI := Lib.hid fun W (hb' : Below w.heap.size w W) => index_one b o cap p x.t W ((hb'.cell (by exact hb)).trans c0)
  obtain ⟨k, n, t⟩ := x
  unfold partV isNm tokV at *
  simp only at *
  generalize (t.toList == p.toList) = q at *
  have HP := Lib.hid hps
  clear hps c0
  obtain ⟨kk, hkk⟩ : ∃ kk, (k == 1) = kk := ⟨_, rfl⟩
  rw [hkk] at HW ⊢
  clear hkk
  cases kk
  · go_enter Tryz.func233, Tryz.ntmps233
    go_wp2_with (first | (go_at_call 146; refine (HW.out _).mono ?_; rintro e w1 ⟨rfl, hb1⟩) | fail)
    go_ret
    exact ⟨rfl, Below.trans (by go_grown) (hb1.mono (by go_size))⟩
  · simp only [Bool.true_and]
    generalize (if q = true then (0 : Int) else -1) = z at *
    go_enter Tryz.func233, Tryz.ntmps233
    go_wp2_with (first
      | (go_at_call 146; refine (HW.out _).mono ?_; rintro e w1 ⟨rfl, hb1⟩; have HB1 : Hid (Below w.heap.size w w1) := Below.trans (by go_grown) (hb1.mono (by go_size)); have h1 : w1.cell? ⟨ps, 0, none⟩ = some (.slice (some ⟨b, o, none⟩) 1 cap) := (HB1.out.cell (by exact hz)).trans (blk_cell HP.out rfl); have x1 : w1.heap[w.heap.size]? = some (.cells #[.int .i64 k, .int .i64 n, .string t, .pointer none] 180 (0, 0)) := (hb1.block _ (by go_size)).trans (new_at _ _ rfl); have t2 : w1.cell? ⟨w.heap.size, 2, none⟩ = some (.string t) := blk_cell x1 rfl; clear hb1 x1)
      | (go_at_call 234; refine (HI.out _ HB1.out).mono ?_; rintro e w2 ⟨rfl, rfl⟩)
      | fail)
    go_ret
    exact ⟨rfl, HB1.out⟩

/-- What filler has made: boxes for the names, for the arguments, and functions. -/
structure Fil (W : World) (sb : Nat) (p : ByteArray) (q : Nat) : Prop where
  ex : ∃ ab pb sa ps b o cap g c fv, W.heap[sb]? = some (.cells #[.func (.func 238) #[] #[.pointer (some ⟨ab, 0, none⟩), .pointer (some ⟨pb, 0, none⟩), .pointer (some ⟨sa, 0, none⟩)]] 348 (0, 0)) ∧ W.heap[pb]? = some (.cells #[.func (.func 233) #[] #[.pointer (some ⟨ps, 0, none⟩)]] fv (0, 0)) ∧ W.heap[sa]? = some (.cells #[.slice (some ⟨g, 0, none⟩) 1 c] 316 (0, 0)) ∧ W.cell? ⟨g, 0, none⟩ = some (.pointer (some ⟨q, 0, none⟩)) ∧ W.heap[ps]? = some (.cells #[.slice (some ⟨b, o, none⟩) 1 cap] 29 (0, 0)) ∧ W.cell? ⟨b, o, none⟩ = some (.string p)
theorem Fil.go {W W' : World} {sb q : Nat} {p : ByteArray} (h : Fil W sb p q) (hb : Below W.heap.size W W') : Fil W' sb p q := by
  obtain ⟨ab, pb, sa, ps, b, o, cap, g, c, fv, h1, h2, h3, h4, h5, h6⟩ := h
  exact ⟨ab, pb, sa, ps, b, o, cap, g, c, fv, (hb.block _ (blk_lt h1)).trans h1, (hb.block _ (blk_lt h2)).trans h2, (hb.block _ (blk_lt h3)).trans h3, (hb.cell (World.block_lt_of_cell? W _ h4)).trans h4, (hb.block _ (blk_lt h5)).trans h5, (hb.cell (World.block_lt_of_cell? W _ h6)).trans h6⟩

/-- What stands for a part. -/
def toN (p : ByteArray) (q : Nat) (x : Tk) : Pc := if isNm p x = true then ⟨⟨0, 0, ⟨#[]⟩⟩, some ⟨q, 0, none⟩⟩ else pc x
def Pc.V (x : Pc) : Value := .agg #[.int .i64 x.t.k, .int .i64 x.t.n, .string x.t.t, .pointer x.q]

set_option maxHeartbeats 4000000 in
theorem stand_in (ab pb sa ps b o cap g c q : Nat) (fv : TypeId) (p : ByteArray) (x : Tk) (w : World) (h2 : w.heap[pb]? = some (.cells #[.func (.func 233) #[] #[.pointer (some ⟨ps, 0, none⟩)]] fv (0, 0))) (h3 : w.heap[sa]? = some (.cells #[.slice (some ⟨g, 0, none⟩) 1 c] 316 (0, 0))) (h4 : w.cell? ⟨g, 0, none⟩ = some (.pointer (some ⟨q, 0, none⟩))) (h5 : w.heap[ps]? = some (.cells #[.slice (some ⟨b, o, none⟩) 1 cap] 29 (0, 0))) (h6 : w.cell? ⟨b, o, none⟩ = some (.string p)) :
    Calls Tryz.prog 238 #[partV x, .pointer (some ⟨ab, 0, none⟩), .pointer (some ⟨pb, 0, none⟩), .pointer (some ⟨sa, 0, none⟩)] w fun r w' => r = .returned (.tuple #[(toN p q x).V, .bool true]) ∧ Below w.heap.size w w' := by
  have hg : g < w.heap.size := World.block_lt_of_cell? w _ h4
  have HPA := Lib.hid fun W (hb : Below w.heap.size w W) => param_any ps b o cap p x W ((hb.block _ (blk_lt h5)).trans h5) ((hb.cell (World.block_lt_of_cell? w _ h6)).trans h6)
  have c2 : w.cell? ⟨pb, 0, none⟩ = some (.func (.func 233) #[] #[.pointer (some ⟨ps, 0, none⟩)]) := blk_cell h2 rfl
  have c3 : w.cell? ⟨sa, 0, none⟩ = some (.slice (some ⟨g, 0, none⟩) 1 c) := blk_cell h3 rfl
  have zp := blk_lt h2
  have za := blk_lt h3
  unfold toN
  obtain ⟨k, n, t⟩ := x
  generalize hq : isNm p ⟨k, n, t⟩ = b1 at *
  clear hq h2 h3 h5 h6
  unfold partV at *
  simp only at *
  cases b1
  · simp only [Bool.false_eq_true, if_false] at *
    unfold Pc.V pc
    go_enter Tryz.func238, Tryz.ntmps238
    go_wp2_with (first
      | (go_at_call 233; refine (HPA.out _ (by go_grown)).mono ?_; rintro e w1 ⟨rfl, hb1⟩; have HB1 : Hid (Below w.heap.size w w1) := Below.trans (by go_grown) (hb1.mono (by go_size)); have x1 : w1.heap[w.heap.size]? = some (.cells #[.int .i64 k, .int .i64 n, .string t, .pointer none] 180 (0, 0)) := ((hb1.block _ (by go_size)).trans (old2 _ _ (by go_size))).trans (new_at _ _ rfl); have x2 : w1.heap[w.heap.size + 1]? = some (.cells #[.int .i64 0, .int .i64 0, .string ⟨#[]⟩, .pointer none] 180 (0, 0)) := (hb1.block _ (by go_size)).trans (new_at _ _ (by go_size)); obtain ⟨⟨⟨u0, u1⟩, u2, u3⟩, _, _, _⟩ := var4_of x1; obtain ⟨⟨⟨v0, v1⟩, v2, v3⟩, ⟨f0, f1⟩, f2, f3⟩ := var4_of x2; have hz1 := blk_lt x2; have X2 := Lib.hid x2; clear hb1 x1 x2)
      | fail)
    exact bodyPost_ret (v := .tuple #[.agg #[.int .i64 k, .int .i64 n, .string t, .pointer none], .bool true]) (by simp [results, Tryz.results238, go_sem, v0, v1, v2, v3]) rfl ⟨rfl, (((HB1.out.setCell (by show w.heap.size ≤ w.heap.size + 1; omega) _).setCell (by show w.heap.size ≤ w.heap.size + 1; omega) _).setCell (by show w.heap.size ≤ w.heap.size + 1; omega) _).setCell (by show w.heap.size ≤ w.heap.size + 1; omega) _⟩
  · simp only [if_true] at *
    unfold Pc.V
    go_enter Tryz.func238, Tryz.ntmps238
    go_wp2_with (first
      | (go_at_call 233; refine (HPA.out _ (by go_grown)).mono ?_; rintro e w1 ⟨rfl, hb1⟩; have HB1 : Hid (Below w.heap.size w w1) := Below.trans (by go_grown) (hb1.mono (by go_size)); have x2 : w1.heap[w.heap.size + 1]? = some (.cells #[.int .i64 0, .int .i64 0, .string ⟨#[]⟩, .pointer none] 180 (0, 0)) := (hb1.block _ (by go_size)).trans (new_at _ _ (by go_size)); obtain ⟨⟨⟨v0, v1⟩, v2, v3⟩, ⟨f0, f1⟩, f2, f3⟩ := var4_of x2; have hz1 := blk_lt x2; have d3 := (HB1.out.cell (by exact za)).trans c3; have d4 := (HB1.out.cell (by exact hg)).trans h4; have za1 : sa < w1.heap.size := (by have := HB1.out.size; omega); have zg1 : g < w1.heap.size := (by have := HB1.out.size; omega); have X2 := Lib.hid x2; clear hb1 x2)
      | fail)
    have n1 : sa ≠ w.heap.size + 1 := by omega
    have n2 : g ≠ w.heap.size + 1 := by omega
    go_region
    all_goals
      go_wp2_with fail
      exact bodyPost_ret (v := .tuple #[.agg #[.int .i64 0, .int .i64 0, .string ⟨#[]⟩, .pointer (some ⟨q, 0, none⟩)], .bool true]) (by simp [results, Tryz.results238, go_sem, v0, v1, v2, v3]) rfl ⟨rfl, ((((HB1.out.drew.setCell (by show w.heap.size ≤ w.heap.size + 1; omega) _).setCell (by show w.heap.size ≤ w.heap.size + 1; omega) _).setCell (by show w.heap.size ≤ w.heap.size + 1; omega) _).setCell (by show w.heap.size ≤ w.heap.size + 1; omega) _)⟩

end Go.Proofs.YtgjmbjahgcndnaaGreatDoor

namespace Go.Proofs.YtgjmbjahgcndnaaGreatDoor
open Go.RowKit

def pcCs (l : List Pc) : List Value := l.flatMap fun x => [.int .i64 x.t.k, .int .i64 x.t.n, .string x.t.t, .pointer x.q]
theorem pcCs_snoc (l : List Pc) (x : Pc) : pcCs (l ++ [x]) = pcCs l ++ [.int .i64 x.t.k, .int .i64 x.t.n, .string x.t.t, .pointer x.q] := by simp [pcCs]
theorem pcCs_at : ∀ (l : List Pc) (i : Nat) (h : i < l.length), (pcCs l)[i * 4]? = some (.int .i64 l[i].t.k) ∧ (pcCs l)[i * 4 + 1]? = some (.int .i64 l[i].t.n) ∧ (pcCs l)[i * 4 + 2]? = some (.string l[i].t.t) ∧ (pcCs l)[i * 4 + 3]? = some (.pointer l[i].q)
  | a :: l, 0, _ => by simp [pcCs]
  | a :: l, i + 1, h => by
    have ih := pcCs_at l i (by simpa using h)
    have e : pcCs (a :: l) = [.int .i64 a.t.k, .int .i64 a.t.n, .string a.t.t, .pointer a.q] ++ pcCs l := by simp [pcCs]
    rw [e, show (i + 1) * 4 = i * 4 + 4 by omega]
    simp only [List.getElem_cons_succ]
    refine ⟨?_, ?_, ?_, ?_⟩
    · rw [List.getElem?_append_right (by simp)]; simpa using ih.1
    · rw [List.getElem?_append_right (by simp)]; simpa using ih.2.1
    · rw [List.getElem?_append_right (by simp)]; simpa using ih.2.2.1
    · rw [List.getElem?_append_right (by simp)]; simpa using ih.2.2.2
theorem xreads_of {W : World} {base : Nat} {v : Value} {l : List Pc} (h : W.ownsRow base 180 4 v l.length (pcCs l)) : XReads W v l := by
  rcases id h.2 with ⟨hv, h0⟩ | ⟨g, cap, cur, rfl, hg, hgg, hle, hm, rest⟩
  · have : l = [] := List.eq_nil_of_length_eq_zero h0
    subst this hv
    exact ⟨none, 0, rfl, Nat.le_refl _, Nat.zero_le _, fun h => by simp at h⟩
  · refine ⟨some ⟨g, 0, none⟩, cap, rfl, hle, hm, fun _ => ⟨g, 0, rfl, blk_lt hgg, fun i hi => ?_⟩⟩
    obtain ⟨a, b, c, d⟩ := pcCs_at l i hi
    have hadd : ∀ j, (⟨g, 0, none⟩ : Addr).add j = ⟨g, 0 + j, none⟩ := fun j => by unfold Addr.add; split <;> simp_all
    have k0 := h.cells rfl _ _ a
    have k1 := h.cells rfl _ _ b
    have k2 := h.cells rfl _ _ c
    have k3 := h.cells rfl _ _ d
    rw [hadd] at k0 k1 k2 k3
    rw [Nat.zero_add] at k0 k1 k2 k3 ⊢
    exact ⟨k0, k1, k2, k3⟩
theorem tkCs_pc (ts : List Tk) : tkCs ts = pcCs (ts.map pc) := by
  induction ts with
  | nil => rfl
  | cons a l ih =>
    have e1 : tkCs (a :: l) = [.int .i64 a.k, .int .i64 a.n, .string a.t, .pointer none] ++ tkCs l := by simp [tkCs]
    have e2 : pcCs ((a :: l).map pc) = [.int .i64 a.k, .int .i64 a.n, .string a.t, .pointer none] ++ pcCs (l.map pc) := by simp [pcCs, pc]
    rw [e1, e2, ih]
/-- Such an inner text, as what reads it wants it. -/
theorem InT.toX {W : World} {B q : Nat} {ts : List Tk} (h : InT W B q ts) : ∃ c gl v wv, W.heap[q]? = some (.cells #[.int .i64 c, .func (.func 159) #[] #[.pointer (some ⟨gl, 0, none⟩)], wv] 228 (0, 0)) ∧ W.heap[gl]? = some (.cells #[v] 143 (0, 0)) ∧ PReads W v ts := by
  obtain ⟨c, gl, v, wv, h1, h2, h3⟩ := h.ex
  refine ⟨c, gl, v, wv, h1, h2, XReads.toP (xreads_of (base := B) ?_)⟩
  rw [List.length_map, ← tkCs_pc]
  exact h3

theorem ownU {w w' : World} {base n : Nat} {e : TypeId} {size : Nat} {v : Value} {xs : List Value} (h : w.ownsRow base e size v n xs) (hb : Below w.heap.size w w') : w'.ownsRow base e size v n xs := by
  refine ⟨h.1, ?_⟩
  rcases h.2 with h | ⟨g, cap, cur, rfl, hg, hcur, rest⟩
  · exact Or.inl h
  · exact Or.inr ⟨g, cap, cur, rfl, hg, (hb.block g (Array.getElem?_eq_some_iff.1 hcur).1).trans hcur, rest⟩
theorem run_make_t5 (w : World) : (Instr.makeSlice 143 (.int .i64 0) (.int .i64 5)).run Tryz.prog w = .ok (.slice (some ⟨w.heap.size, 0, none⟩) 0 5) (w.alloc (.cells #[.int .i64 0, .int .i64 0, .string ⟨#[]⟩, .pointer none, .int .i64 0, .int .i64 0, .string ⟨#[]⟩, .pointer none, .int .i64 0, .int .i64 0, .string ⟨#[]⟩, .pointer none, .int .i64 0, .int .i64 0, .string ⟨#[]⟩, .pointer none, .int .i64 0, .int .i64 0, .string ⟨#[]⟩, .pointer none] 180)) := by kernel_rfl

set_option maxHeartbeats 8000000 in
theorem fill_five (sb q : Nat) (p : ByteArray) (v : Value) (ts : List Tk) (w : World) (h : Fil w sb p q) (hv : PReads w v ts) (hl : ts.length = 5) :
    Calls Tryz.prog 239 #[v, .pointer (some ⟨sb, 0, none⟩)] w fun r w' => (∃ v', r = .returned v' ∧ w'.ownsRow w.heap.size 180 4 v' 5 (pcCs (ts.map (toN p q)))) ∧ Below w.heap.size w w' := by
  obtain ⟨ab, pb, sa, ps, b, o, cap, g, c, fv, f1, f2, f3, f4, f5, f6⟩ := h
  have HST := Lib.hid fun x W (hb : Below w.heap.size w W) => stand_in ab pb sa ps b o cap g c q fv p x W ((hb.block _ (blk_lt f2)).trans f2) ((hb.block _ (blk_lt f3)).trans f3) ((hb.cell (World.block_lt_of_cell? w _ f4)).trans f4) ((hb.block _ (blk_lt f5)).trans f5) ((hb.cell (World.block_lt_of_cell? w _ f6)).trans f6)
  have hsb := blk_lt f1
  have HSB := Lib.hid f1
  obtain ⟨ad, vc, rfl, hc, hm, hx⟩ := hv
  obtain ⟨b', o', rfl, hlt, hcell⟩ := hx (by omega)
  have HC := Lib.hid hcell
  have HL := Lib.hid hl
  clear hx hcell f1 f2 f3 f4 f5 f6
  rw [hl] at hc ⊢
  have hmk := run_make_t5
  have hown : (w.alloc (.cells #[.int .i64 0, .int .i64 0, .string ⟨#[]⟩, .pointer none, .int .i64 0, .int .i64 0, .string ⟨#[]⟩, .pointer none, .int .i64 0, .int .i64 0, .string ⟨#[]⟩, .pointer none, .int .i64 0, .int .i64 0, .string ⟨#[]⟩, .pointer none, .int .i64 0, .int .i64 0, .string ⟨#[]⟩, .pointer none] 180)).ownsRow w.heap.size 180 4 (.slice (some ⟨w.heap.size, 0, none⟩) 0 5) 0 [] := ⟨rfl, .inr ⟨w.heap.size, 5, _, rfl, Nat.le_refl _, new_at _ _ rfl, by omega, by unfold maxLen; omega, by simp, by simp⟩⟩
  have HOW := Lib.hid hown
  clear hown hl
  go_enter Tryz.func239, Tryz.ntmps239
  go_wp2_with fail
  clear hmk
  go_loopw [4, 14] (fun ov iv wr => ∃ (k : Nat) (la : Option Addr) (lc : Nat), k ≤ 5 ∧ iv = .int .i64 k ∧ ov = .slice la k lc ∧ Hid (wr.ownsRow w.heap.size 180 4 (.slice la k lc) k (pcCs ((ts.take k).map (toN p q)))) ∧ Hid (Below w.heap.size w wr)) (fun _ iv _ => 5 - (intOf iv).toNat)
  case atStart => exact ⟨0, _, _, by omega, rfl, rfl, HOW, oalloc _ _⟩
  case round =>
    obtain ⟨k, la, lc, hk, rfl, rfl, HO, HB⟩ := hrel
    clear HOW
    by_cases hlt5 : k < 5
    · have hk' : (k : Int) < 5 := by omega
      have hkl : k < ts.length := by have := HL.out; omega
      obtain ⟨k0, k1, k2, k3⟩ := HC.out k hkl
      have hz := HB.out.size
      replace k0 := (HB.out.cell (by exact hlt)).trans k0
      replace k1 := (HB.out.cell (by exact hlt)).trans k1
      replace k2 := (HB.out.cell (by exact hlt)).trans k2
      replace k3 := (HB.out.cell (by exact hlt)).trans k3
      have hb2 : b' < wr.heap.size := by omega
      have hs : wr.cell? ⟨sb, 0, none⟩ = some (.func (.func 238) #[] #[.pointer (some ⟨ab, 0, none⟩), .pointer (some ⟨pb, 0, none⟩), .pointer (some ⟨sa, 0, none⟩)]) := (HB.out.cell (by exact hsb)).trans (blk_cell HSB.out rfl)
      have hsb2 : sb < wr.heap.size := by omega
      have HT : Hid ((ts.take (k + 1)).map (toN p q) = (ts.take k).map (toN p q) ++ [toN p q (ts[k]'hkl)]) := by
        unfold Hid
        rw [List.take_succ_eq_append_getElem hkl, List.map_append]
        rfl
      obtain ⟨x, hx⟩ : ∃ x, ts[k]'hkl = x := ⟨_, rfl⟩
      rw [hx] at k0 k1 k2 HT
      clear hx
      have HSX := Lib.hid (HST.out x)
      obtain ⟨xk, xn, xt⟩ := x
      unfold partV Pc.V at HSX
      simp only at k0 k1 k2 HSX
      generalize toN p q ⟨xk, xn, xt⟩ = y at *
      obtain ⟨⟨yk, yn, yt⟩, yq⟩ := y
      simp only at HSX
      clear HST
      go_wp2_with (first
        | (go_at_call 238; refine (HSX.out _ (by have hb := HB.out; go_grown)).mono ?_; rintro e w1 ⟨rfl, hb1⟩; have HB1 : Hid (Below wr.heap.size wr w1) := Below.trans (by go_grown) (hb1.mono (by go_size)); clear hb1)
        | (at_builtin; have hwn : (w1.alloc (.cells #[.int .i64 yk, .int .i64 yn, .string yt, .pointer yq] 180)).heap.size = w1.heap.size + 1 := (by simp); obtain ⟨v6, w6, happ, ho6, hgr6⟩ := app1 143 180 _ 4 40 Tryz.underlying143 infoPt rfl (by decide) (by decide) (w := (w1.alloc (.cells #[.int .i64 yk, .int .i64 yn, .string yt, .pointer yq] 180)).alloc (.cells #[.int .i64 yk, .int .i64 yn, .string yt, .pointer yq] 180)) (ownU HO.out (by have hb := HB1.out; have hs := HB1.out.size; go_grown)) (by have := HB1.out.size; simp; omega) [.int .i64 yk, .int .i64 yn, .string yt, .pointer yq] rfl (w1.heap.size + 1) (new_at _ _ hwn.symm) (by intro u hu; simp at hu; rcases hu with rfl | rfl | rfl | rfl <;> rfl) (by omega); refine wpList_app_eq rfl _ _ _ _ rfl _ _ rfl rfl happ ?_)
        | fail)
      obtain ⟨la6, lc6, rfl⟩ := row_shape ho6
      refine ⟨⟨k + 1, la6, lc6, by omega, by go_num, rfl, ?_, ?_⟩, by simp [intOf]; omega⟩
      · rw [HT.out, pcCs_snoc]
        exact ho6
      · exact ((HB.out.trans (HB1.out.mono hz)).alloc (by have := HB1.out.size; omega) _ |>.alloc (by have := HB1.out.size; simp; omega) _).grown hgr6 (by have := HB1.out.size; simp; omega) (fun j hj => (HO.out.lt j hj).1)
    · obtain rfl : k = 5 := by omega
      have hk' : ¬ ((5 : Nat) : Int) < 5 := by decide
      go_wp2_with fail
      go_ret
      refine ⟨⟨_, rfl, ?_⟩, HB.out⟩
      have := HO.out
      rw [List.take_of_length_le (by have := HL.out; omega)] at this
      exact this

end Go.Proofs.YtgjmbjahgcndnaaGreatDoor
