import Derived.Test.YtfmljailbebfgaaGreatDoorPut39
set_option maxHeartbeats 4000000
namespace Go.Proofs.YtfmljailbebfgaaGreatDoor
open Go.RowKit
theorem qED : ∀ (ps : List (Sc.Ln × Value)) (i : Nat) (h : i < ps.length), (Sc.lcells ps)[i * 2]? = some (.int .i64 ps[i].1.pos) /\ (Sc.lcells ps)[i * 2 + 1]? = some ps[i].2
 | [], i, h => by simp at h
 | p :: r, 0, h => by simp [Sc.lcells]
 | p :: r, i + 1, h => by
   have ih := qED r i (by simpa using h)
   have e : Sc.lcells (p :: r) = [.int .i64 p.1.pos, p.2] ++ Sc.lcells r := by simp [Sc.lcells]
   rw [e, show (i + 1) * 2 = 2 + i * 2 by omega]
   simp only [List.getElem_cons_succ]
   refine ⟨?_, ?_⟩
   ·rw [List.getElem?_append_right (by simp)]; simpa using ih.1
   ·rw [List.getElem?_append_right (by simp; omega)]; simpa [show 2 + i * 2 + 1 - 2 = i * 2 + 1 by omega] using ih.2
theorem lin_of {w : World} {base : Nat} {v : Value} {ps : List (Sc.Ln × Value)} (h : Sc.LOwn w base v ps) : LIn w v (ps.map (·.1)) := by
 rcases id h.row.2 with ⟨hv, h0⟩ | ⟨g, cap, cur, rfl, hg, hgg, hle, hm, rest⟩
 ·exact ⟨none, 0, by rw [hv]; simp [h0], fun h => by simp at h; omega⟩
 ·refine ⟨some ⟨g, 0, none⟩, cap, by simp, fun _ => ⟨g, 0, rfl, qC hgg, fun i hi => ?_⟩⟩
  have hi' : i < ps.length := by simpa using hi
  obtain ⟨a, b⟩ := qED ps i hi'
  have hadd : ∀ j, (⟨g, 0, none⟩ : Addr).add j = ⟨g, 0 + j, none⟩ := fun j => by unfold Addr.add; split <;> simp_all
  have k0 := h.row.cells rfl _ _ a
  have k1 := h.row.cells rfl _ _ b
  rw [hadd] at k0 k1
  simp only [List.getElem_map]
  exact ⟨ps[i].2, k0, k1, Sc.qA7 (h.toks ps[i] (List.getElem_mem _))⟩
theorem qF7 (gu : Nat) (v : Value) (sn : Int) (x : Tk) (w : World) (hG : Sc.Glob w) (h : PReads w v [⟨3, sn, ⟨#[64]⟩⟩, x]) (hx : x.k = 1) (hr : 0 <= regU 1 x.t.data.toList) :
  Calls Tryz.prog 133 #[.pointer (some ⟨gu, 0, none⟩), v] w fun r w' => r = .returned (.tuple #[opV ⟨#[64]⟩ (regU 1 x.t.data.toList) ⟨#[]⟩ 0, .int .i64 0]) /\ Below w.heap.size w w' := by
 have HN := Lib.hid fun W (hb : Below w.heap.size w W) => qu v [⟨3, sn, ⟨#[64]⟩⟩, x] W (h.below hb (Nat.le_refl _))
 have HE0 := Lib.hid fun v' W (hb : Below w.heap.size w W) (hv : PReads W v' [x]) => qFU ⟨#[64]⟩ v' x W (hG.below hb hG.sz) hv hx hr
 have HS1 : Hid (∀ W, Calls Tryz.prog 127 #[tokV 3 sn ⟨#[64]⟩, .string ⟨#[35]⟩] W fun r w' => r = .returned (.bool false) /\ Below W.heap.size W w') := fun W => by
  have := qj 3 sn ⟨#[64]⟩ ⟨#[35]⟩ W
  rwa [show ((3 : Int) == 3 && (⟨#[64]⟩ : ByteArray).toList == (⟨#[35]⟩ : ByteArray).toList) = false by simp [ByteArray.toList_eq]] at this
 have HS2 : Hid (∀ W, Calls Tryz.prog 127 #[tokV 3 sn ⟨#[64]⟩, .string ⟨#[61]⟩] W fun r w' => r = .returned (.bool false) /\ Below W.heap.size W w') := fun W => by
  have := qj 3 sn ⟨#[64]⟩ ⟨#[61]⟩ W
  rwa [show ((3 : Int) == 3 && (⟨#[64]⟩ : ByteArray).toList == (⟨#[61]⟩ : ByteArray).toList) = false by simp [ByteArray.toList_eq]] at this
 have HS3 : Hid (∀ W, Calls Tryz.prog 127 #[tokV 3 sn ⟨#[64]⟩, .string ⟨#[64]⟩] W fun r w' => r = .returned (.bool true) /\ Below W.heap.size W w') := fun W => by
  have := qj 3 sn ⟨#[64]⟩ ⟨#[64]⟩ W
  rwa [show ((3 : Int) == 3 && (⟨#[64]⟩ : ByteArray).toList == (⟨#[64]⟩ : ByteArray).toList) = true by simp] at this
 obtain ⟨ad, cap, rfl, _⟩ := h
 clear hG
 generalize regU 1 x.t.data.toList = rg at *
 unfold opV at *
 unfold Tk.V tokV headT at *
 simp only [List.length_cons, List.length_nil] at *
 go_enter Tryz.func133, Tryz.ntmps133
 go_wp2_with fail
 refine (HN.out _ (oalloc _ _)).mono ?_
 rintro e w1 ⟨⟨v', rfl, hv⟩, hb1⟩
 obtain ⟨ad', cap', rfl, _⟩ := id hv
 obtain ⟨hB1, hz1, xr⟩ := qL hb1
 simp only [List.tail_cons, List.length_singleton] at *
 have HPV := Lib.hid hv
 have HBV := Lib.hid hb1
 clear hb1 hv
 go_wp2_with fail
 refine (HS1.out _).mono ?_
 rintro e w2 ⟨rfl, hb2⟩
 obtain ⟨hB2, hz2, xt⟩ := qL hb2
 replace xr := (hB2.block _ (by omega)).trans xr
 have HB := Lib.hid (hB1.trans (hB2.mono (by omega)))
 replace HBV := Lib.hid (HBV.out.trans (hB2.mono HBV.out.size))
 have t0 : w2.cell? ⟨w1.heap.size, 0, none⟩ = some (.int .i64 3) := qB xt rfl
 have t1 : w2.cell? ⟨w1.heap.size, 1, none⟩ = some (.int .i64 sn) := qB xt rfl
 have t2 : w2.cell? ⟨w1.heap.size, 2, none⟩ = some (.string ⟨#[64]⟩) := qB xt rfl
 have XR := Lib.hid xr
 have XT := Lib.hid xt
 clear hb2 hB2 hB1 xr xt HS1
 go_wp2_with fail
 refine (HS2.out _).mono ?_
 rintro e w3 ⟨rfl, hb3⟩
 have xt3 := (hb3.block _ (qC XT.out)).trans XT.out
 replace XR := Lib.hid ((hb3.block _ (qC XR.out)).trans XR.out)
 replace HB := Lib.hid (HB.out.trans (hb3.mono HB.out.size))
 replace HBV := Lib.hid (HBV.out.trans (hb3.mono HBV.out.size))
 replace t0 : w3.cell? ⟨w1.heap.size, 0, none⟩ = some (.int .i64 3) := qB xt3 rfl
 replace t1 : w3.cell? ⟨w1.heap.size, 1, none⟩ = some (.int .i64 sn) := qB xt3 rfl
 replace t2 : w3.cell? ⟨w1.heap.size, 2, none⟩ = some (.string ⟨#[64]⟩) := qB xt3 rfl
 have hz3 := qC xt3
 replace XT := Lib.hid xt3
 clear hb3 xt3 HS2
 go_wp2_with fail
 refine (HS3.out _).mono ?_
 rintro e w4 ⟨rfl, hb4⟩
 have xt4 := (hb4.block _ (qC XT.out)).trans XT.out
 replace XR := Lib.hid ((hb4.block _ (qC XR.out)).trans XR.out)
 replace HB := Lib.hid (HB.out.trans (hb4.mono HB.out.size))
 replace HBV := Lib.hid (HBV.out.trans (hb4.mono HBV.out.size))
 replace t0 : w4.cell? ⟨w1.heap.size, 0, none⟩ = some (.int .i64 3) := qB xt4 rfl
 replace t1 : w4.cell? ⟨w1.heap.size, 1, none⟩ = some (.int .i64 sn) := qB xt4 rfl
 replace t2 : w4.cell? ⟨w1.heap.size, 2, none⟩ = some (.string ⟨#[64]⟩) := qB xt4 rfl
 have hz4 := qC xt4
 clear hb4 xt4 HS3 XT
 go_wp2_with fail
 refine (HE0.out _ _ HB.out (HPV.out.below HBV.out (Nat.le_refl _))).mono ?_
 rintro e w6 ⟨rfl, hb6⟩
 obtain ⟨⟨⟨u0, u1⟩, u2, u3⟩, ⟨f0, f1⟩, f2, f3⟩ := qf ((hb6.block _ (qC XR.out)).trans XR.out)
 have hz6 : w.heap.size < w6.heap.size := Nat.lt_of_lt_of_le (qC XR.out) hb6.size
 replace HB := Lib.hid (HB.out.trans (hb6.mono HB.out.size))
 clear hb6
 go_wp2_with fail
 exact bodyPost_ret (v := .tuple #[.agg #[.string ⟨#[64]⟩, .int .i64 rg, .string ⟨#[]⟩, .int .i64 0], .int .i64 0]) (by simp [results, Tryz.results133, go_sem, u0, u1, u2, u3]) rfl ⟨rfl, (((HB.out.setCell (Nat.le_refl _) _).setCell (Nat.le_refl _) _).setCell (Nat.le_refl _) _).setCell (Nat.le_refl _) _⟩
def hdRept : ByteArray := ⟨#[46, 114, 101, 112, 116]⟩
def hdEndr : ByteArray := ⟨#[46, 101, 110, 100, 114]⟩
structure L3 (w : World) (b o : Nat) (v0 v1 v2 : Value) (p0 p1 p2 : Int) (t0 t1 t2 : List Tk) : Prop where
 lt : b < w.heap.size
 s0 : ∃ a n c, v0 = .slice a n c
 s1 : ∃ a n c, v1 = .slice a n c
 s2 : ∃ a n c, v2 = .slice a n c
 c0 : w.cell? ⟨b, o, none⟩ = some v0
 d0 : w.cell? ⟨b, o + 1, none⟩ = some (.int .i64 p0)
 c1 : w.cell? ⟨b, o + 2, none⟩ = some v1
 d1 : w.cell? ⟨b, o + 3, none⟩ = some (.int .i64 p1)
 c2 : w.cell? ⟨b, o + 4, none⟩ = some v2
 d2 : w.cell? ⟨b, o + 5, none⟩ = some (.int .i64 p2)
 r0 : PReads w v0 t0
 r1 : PReads w v1 t1
 r2 : PReads w v2 t2
theorem L3.go {w w' : World} {b o : Nat} {v0 v1 v2 : Value} {p0 p1 p2 : Int} {t0 t1 t2 : List Tk} (h : L3 w b o v0 v1 v2 p0 p1 p2 t0 t1 t2) (hb : Below w.heap.size w w') : L3 w' b o v0 v1 v2 p0 p1 p2 t0 t1 t2 :=
 ⟨Nat.lt_of_lt_of_le h.lt hb.size, h.s0, h.s1, h.s2, by rw [hb.cell (by exact h.lt)]; exact h.c0, by rw [hb.cell (by exact h.lt)]; exact h.d0, by rw [hb.cell (by exact h.lt)]; exact h.c1, by rw [hb.cell (by exact h.lt)]; exact h.d1, by rw [hb.cell (by exact h.lt)]; exact h.c2, by rw [hb.cell (by exact h.lt)]; exact h.d2, h.r0.below hb (Nat.le_refl _), h.r1.below hb (Nat.le_refl _), h.r2.below hb (Nat.le_refl _)⟩
theorem qGf (w : World) : Calls Tryz.prog 185 #[.string hdRept] w fun r w' => r = .returned (.string hdEndr) /\ w = w' := by
 unfold hdRept hdEndr
 go_enter Tryz.func185, Tryz.ntmps185
 go_wp2
 go_ret
 exact ⟨rfl, rfl⟩
theorem qG9 (b o n cap : Nat) (v0 v1 v2 : Value) (p0 p1 p2 : Int) (t0 t1 t2 : List Tk) (w : World) (h : L3 w b o v0 v1 v2 p0 p1 p2 t0 t1 t2) (hn : n + 3 <= 1000) (h0 : headS t0 = hdRept) (h1 : PlainHead (headS t1)) (h2 : headS t2 = hdEndr) :
  Calls Tryz.prog 149 #[.slice (some ⟨b, o, none⟩) (n + 3) cap] w fun r w' => r = .returned (.tuple #[.int .i64 2, .int .i64 2]) /\ Below w.heap.size w w' := by
 have HH0 := Lib.hid fun W (hb : Below w.heap.size w W) => qBB v0 t0 W (h.r0.below hb (Nat.le_refl _))
 have HH1 := Lib.hid fun W (hb : Below w.heap.size w W) => qBB v1 t1 W (h.r1.below hb (Nat.le_refl _))
 have HH2 := Lib.hid fun W (hb : Below w.heap.size w W) => qBB v2 t2 W (h.r2.below hb (Nat.le_refl _))
 rw [h0] at HH0
 rw [h2] at HH2
 have HE := Lib.hid qGf
 have HV := Lib.hid h
 obtain ⟨a0, n0, k0, rfl⟩ := h.s0
 obtain ⟨a1, n1, k1, rfl⟩ := h.s1
 obtain ⟨a2, n2, k2, rfl⟩ := h.s2
 have hlt := h.lt
 have c0 := h.c0
 have d0 := h.d0
 clear h h0 h2
 generalize headS t1 = s at *
 have q1 := h1 _ (List.mem_of_getElem? (show heads[1]? = _ from rfl))
 have q4 := h1 _ (List.mem_of_getElem? (show heads[4]? = _ from rfl))
 have q6 := h1 _ (List.mem_of_getElem? (show heads[6]? = _ from rfl))
 unfold hdRept hdEndr at *
 clear h1
 go_enter Tryz.func149, Tryz.ntmps149
 go_wp2_with (first | (go_at_call 120; refine (HH0.out _ (by go_grown)).mono ?_; rintro e w1 ⟨rfl, hb1⟩; have HB1 := Lib.hid hb1; clear hb1) | (go_at_call 185; refine (HE.out _).mono ?_; rintro e w2 ⟨rfl, rfl⟩))
 clear HE c0 d0
 go_loopw [6, 7, 19] (fun mv ov iv wr => ∃ k : Nat, k <= 2 /\ iv = .int .i64 k /\ mv = .int .i64 0 /\ ov = .int .i64 (if k = 0 then 0 else 1) /\ Hid (Below w.heap.size w wr)) (fun _ _ iv _ => 3 - (intOf iv).toNat)
 case atStart => exact ⟨0, by omega, rfl, rfl, rfl, HB1⟩
 case round =>
  obtain ⟨k, hk, rfl, rfl, rfl, HB⟩ := hrel
  have hv := HV.out.go (w' := wr)
  have hV := HV.out
  have hz : b < wr.heap.size := Nat.lt_of_lt_of_le hlt HB.out.size
  have e0 := (HB.out.cell (p := ⟨b, o, none⟩) hlt).trans hV.c0
  have e1 := (HB.out.cell (p := ⟨b, o + 1, none⟩) hlt).trans hV.d0
  have e2 := (HB.out.cell (p := ⟨b, o + 2, none⟩) hlt).trans hV.c1
  have e3 := (HB.out.cell (p := ⟨b, o + 3, none⟩) hlt).trans hV.d1
  have e4 := (HB.out.cell (p := ⟨b, o + 4, none⟩) hlt).trans hV.c2
  have e5 := (HB.out.cell (p := ⟨b, o + 5, none⟩) hlt).trans hV.d2
  clear hV hv
  have hk3 : k = 0 \/ k = 1 \/ k = 2 := by omega
  have hzz := HB.out.size
  rcases hk3 with rfl | rfl | rfl
  ·rw [if_pos rfl]
   go_wp2_with (go_at_call 120; refine (HH0.out _ (HB.out.alloc hzz _)).mono ?_; rintro e w3 ⟨rfl, hb3⟩; have HB3 := Lib.hid ((HB.out.alloc hzz _).trans (hb3.mono (by simp; omega))); clear hb3)
   exact ⟨⟨1, by omega, rfl, rfl, rfl, HB3⟩, by simp [intOf]⟩
  ·rw [if_neg (by decide)]
   go_wp2_with (go_at_call 120; refine (HH1.out _ (HB.out.alloc hzz _)).mono ?_; rintro e w3 ⟨rfl, hb3⟩; have HB3 := Lib.hid ((HB.out.alloc hzz _).trans (hb3.mono (by simp; omega))); clear hb3)
   exact ⟨⟨2, by omega, rfl, rfl, rfl, HB3⟩, by simp [intOf]⟩
  ·rw [if_neg (by decide)]
   go_wp2_with (go_at_call 120; refine (HH2.out _ (HB.out.alloc hzz _)).mono ?_; rintro e w3 ⟨rfl, hb3⟩; have HB3 := Lib.hid ((HB.out.alloc hzz _).trans (hb3.mono (by simp; omega))); clear hb3)
   go_returns
   exact ⟨rfl, HB3.out⟩
theorem more_no (v : Value) (p : Int) (x : Tk) (w : World) (h : PReads w v [x]) :
  Calls Tryz.prog 150 #[.agg #[v, .int .i64 p]] w fun r w' => r = .returned (.bool false) /\ Below w.heap.size w w' := by
 have HB := Lib.hid fun W (hb : Below w.heap.size w W) => qo v [x] W (h.below hb (Nat.le_refl _))
 clear h
 go_enter Tryz.func150, Tryz.ntmps150
 go_wp2_with (go_at_call 124; refine (HB.out _ (by go_grown)).mono ?_; rintro e w1 ⟨⟨v', rfl, hv⟩, hb1⟩; obtain ⟨ad, cap, rfl, _⟩ := hv; have HB1 := Lib.hid hb1; clear hb1)
 go_ret
 exact ⟨rfl, Below.trans (by go_grown) (HB1.out.mono (by go_size))⟩
theorem cut_rept (b o n cap : Nat) (v0 v1 v2 : Value) (p0 p1 p2 : Int) (t0 t1 : List Tk) (x2 : Tk) (w : World) (h : L3 w b o v0 v1 v2 p0 p1 p2 t0 t1 [x2]) (hn : n + 3 <= 1000) (hc : n + 3 <= cap) (hcm : cap <= maxLen) (h0 : headS t0 = hdRept) (h1 : PlainHead (headS t1)) (h2 : headS [x2] = hdEndr) :
  Calls Tryz.prog 121 #[.slice (some ⟨b, o, none⟩) (n + 3) cap] w fun r w' => r = .returned (.tuple #[.agg #[v0, .int .i64 p0, .slice (some ⟨b, o + 2, none⟩) 1 (cap - 1), .slice none 0 0, .int .i64 3], .agg #[.int .i64 0, .int .i64 0]]) /\ Below w.heap.size w w' := by
 have HFD := Lib.hid fun W (hb : Below w.heap.size w W) => qG9 b o n cap v0 v1 v2 p0 p1 p2 t0 t1 [x2] W (h.go hb) hn h0 h1 h2
 have HMO := Lib.hid fun W (hb : Below w.heap.size w W) => more_no v2 p2 x2 W (h.r2.below hb (Nat.le_refl _))
 have HV := Lib.hid h
 obtain ⟨a0, n0, k0, rfl⟩ := h.s0
 obtain ⟨a2, n2, k2, rfl⟩ := h.s2
 have hlt := h.lt
 clear h h0 h1 h2
 go_enter Tryz.func121, Tryz.ntmps121
 go_wp2_with (go_at_call 149; refine (HFD.out _ (by go_grown)).mono ?_; rintro e w1 ⟨rfl, hb1⟩; have hB1 : Below w.heap.size w w1 := Below.trans (by go_grown) (hb1.mono (by go_size)); have x0 : w1.heap[w.heap.size]? = some (.cells #[.slice none 0 0, .int .i64 0, .slice none 0 0, .slice none 0 0, .int .i64 0] 218 (0, 0)) := (by rw [hb1.block _ (by go_size), old2 _ _ (by go_size)]; exact qG _ _ rfl); have x1 : w1.heap[w.heap.size + 1]? = some (.cells #[.int .i64 0, .int .i64 0] 38 (0, 0)) := (by rw [hb1.block _ (by go_size)]; exact qG _ _ (by go_size)); have HB1 := Lib.hid hB1; have X0 := Lib.hid x0; have X1 := Lib.hid x1; have e0 := (hB1.cell (p := ⟨b, o, none⟩) hlt).trans HV.out.c0; have e1 := (hB1.cell (p := ⟨b, o + 1, none⟩) hlt).trans HV.out.d0; have e4 := (hB1.cell (p := ⟨b, o + 4, none⟩) hlt).trans HV.out.c2; have e5 : w1.cell? ⟨b, o + 4 + 1, none⟩ = some (.int .i64 p2) := (hB1.cell (p := ⟨b, o + 5, none⟩) hlt).trans HV.out.d2; have hb1' := Nat.lt_of_lt_of_le hlt hB1.size; clear hb1 hB1 x0 x1)
 refine (HMO.out _ HB1.out).mono ?_
 rintro e w2 ⟨rfl, hb2⟩
 have hB2 : Below w.heap.size w w2 := HB1.out.trans (hb2.mono HB1.out.size)
 have z0 := (hb2.block _ (qC X0.out)).trans X0.out
 have z1 := (hb2.block _ (qC X1.out)).trans X1.out
 replace e0 := (hb2.cell (p := ⟨b, o, none⟩) hb1').trans e0
 replace e1 := (hb2.cell (p := ⟨b, o + 1, none⟩) hb1').trans e1
 have HB2 := Lib.hid hB2
 have Z0 := Lib.hid z0
 have Z1 := Lib.hid z1
 have hz := qC z1
 have hzb : b < w2.heap.size := Nat.lt_of_lt_of_le hb1' hb2.size
 obtain ⟨c, rfl⟩ : ∃ c, cap = c + 1 := ⟨cap - 1, by omega⟩
 have hc0 : c ≠ 0 := by omega
 clear e4 e5 hb1' hb2 hB2 z0 z1 HB1 X0 X1 HMO HFD
 go_wp2_with fail
 go_region
 have hb3 : Below w2.heap.size w2 ((w2.alloc (.cells #[.slice a0 n0 k0, .int .i64 p0, .slice (some ⟨b, o + 2, none⟩) 1 c, .slice none 0 0, .int .i64 3] 218)).drew) := (oalloc _ _).drew
 have z3 : ((w2.alloc (.cells #[.slice a0 n0 k0, .int .i64 p0, .slice (some ⟨b, o + 2, none⟩) 1 c, .slice none 0 0, .int .i64 3] 218)).drew).heap[w2.heap.size]? = some (.cells #[.slice a0 n0 k0, .int .i64 p0, .slice (some ⟨b, o + 2, none⟩) 1 c, .slice none 0 0, .int .i64 3] 218 (0, 0)) := qG _ _ rfl
 generalize (w2.alloc (.cells #[.slice a0 n0 k0, .int .i64 p0, .slice (some ⟨b, o + 2, none⟩) 1 c, .slice none 0 0, .int .i64 3] 218)).drew = W3 at *
 have z0 := (hb3.block _ (qC Z0.out)).trans Z0.out
 have z1 := (hb3.block _ (qC Z1.out)).trans Z1.out
 have g0 : W3.cell? ⟨w.heap.size, 0, none⟩ = some (.slice none 0 0) := qB z0 rfl
 have g1 : W3.cell? ⟨w.heap.size, 1, none⟩ = some (.int .i64 0) := qB z0 rfl
 have g2 : W3.cell? ⟨w.heap.size, 2, none⟩ = some (.slice none 0 0) := qB z0 rfl
 have g3 : W3.cell? ⟨w.heap.size, 3, none⟩ = some (.slice none 0 0) := qB z0 rfl
 have g4 : W3.cell? ⟨w.heap.size, 4, none⟩ = some (.int .i64 0) := qB z0 rfl
 have f0 : W3.frozen? ⟨w.heap.size, 0, none⟩ = false := qD z0
 have f1 : W3.frozen? ⟨w.heap.size, 1, none⟩ = false := qD z0
 have f2 : W3.frozen? ⟨w.heap.size, 2, none⟩ = false := qD z0
 have f3 : W3.frozen? ⟨w.heap.size, 3, none⟩ = false := qD z0
 have f4 : W3.frozen? ⟨w.heap.size, 4, none⟩ = false := qD z0
 have q0 : W3.cell? ⟨w2.heap.size, 0, none⟩ = some (.slice a0 n0 k0) := qB z3 rfl
 have q1 : W3.cell? ⟨w2.heap.size, 1, none⟩ = some (.int .i64 p0) := qB z3 rfl
 have q2 : W3.cell? ⟨w2.heap.size, 2, none⟩ = some (.slice (some ⟨b, o + 2, none⟩) 1 c) := qB z3 rfl
 have q3 : W3.cell? ⟨w2.heap.size, 3, none⟩ = some (.slice none 0 0) := qB z3 rfl
 have q4 : W3.cell? ⟨w2.heap.size, 4, none⟩ = some (.int .i64 3) := qB z3 rfl
 obtain ⟨⟨k0', k1'⟩, j0, j1⟩ := qV z1
 have hzw : w.heap.size < W3.heap.size := qC z0
 have hzw1 : w.heap.size + 1 < W3.heap.size := qC z1
 have HB3 := Lib.hid (HB2.out.trans (hb3.mono HB2.out.size))
 clear hb3 z0 z1 z3 Z0 Z1 HB2 e0 e1 HV
 go_wp2_with fail
 refine bodyPost_ret (v := .tuple #[.agg #[.slice a0 n0 k0, .int .i64 p0, .slice (some ⟨b, o + 2, none⟩) 1 c, .slice none 0 0, .int .i64 3], .agg #[.int .i64 0, .int .i64 0]]) (by simp [results, Tryz.results121, go_sem, g0, g1, g2, g3, g4, k0', k1']) rfl ⟨by simp, ?_⟩
 exact ((((((HB3.out.setCell (Nat.le_refl _) _).setCell (Nat.le_refl _) _).setCell (Nat.le_refl _) _).setCell (Nat.le_refl _) _).setCell (Nat.le_refl _) _).setCell (Nat.le_succ _) _).setCell (Nat.le_succ _) _
theorem qIJ (g q : Nat) (ev : Value) (nm : ByteArray) (n : Int) (w : World) (h : PR w g q ⟨#[]⟩ true ev false 0 true nm n) :
  Calls Tryz.prog 190 #[.pointer (some ⟨g, 0, none⟩)] w fun r w' => r = .returned (.tuple #[.agg #[.string nm, .int .i64 n], .int .i64 0]) /\ Below w.heap.size w w' := by
 have HF := Lib.hid fun W (hb : Below w.heap.size w W) => qDp g q ev nm n 0 W (h.go hb)
 have c6 : w.cell? ⟨g, 6, none⟩ = some (.int .i64 0) := qB h.pt rfl
 have hg := qC h.pt
 clear h
 go_enter Tryz.func190, Tryz.ntmps190
 go_wp2_with fail
 refine (HF.out _ (oalloc _ _)).mono ?_
 rintro e w1 ⟨rfl, hb1⟩
 obtain ⟨hB1, hz1, xr⟩ := qL hb1
 obtain ⟨⟨u0, u1⟩, f0, f1⟩ := qV xr
 have HB1 := Lib.hid hB1
 clear hb1 hB1 xr
 go_wp2_with fail
 refine bodyPost_ret (v := .tuple #[.agg #[.string nm, .int .i64 n], .int .i64 0]) (by simp [results, Tryz.results190, go_sem, u0, u1]) rfl ⟨rfl, ?_⟩
 exact (HB1.out.setCell (Nat.le_refl _) _).setCell (Nat.le_refl _) _
theorem qF4 (gw : Nat) (v : Value) (x : Tk) (n : Int) (hk : AtomK x.k x.n x.t ⟨#[]⟩ n) (w : World) (hL : Xp.KLaid w) (h : PReads w v [x]) (hw : w.cell? ⟨gw, 1, none⟩ = some (.slice none 0 0)) :
  Calls Tryz.prog 152 #[.pointer (some ⟨gw, 0, none⟩), v] w fun r w' => r = .returned (.tuple #[.int .i64 n, .int .i64 0]) /\ Below w.heap.size w w' := by
 obtain ⟨ad, cap, rfl, hc, hm, h⟩ := h
 obtain ⟨b, o, rfl, hb, hcell⟩ := h (by simp)
 have c := hcell 0 (by simp)
 simp only [Nat.zero_mul, Nat.add_zero, List.getElem_cons_zero] at c
 obtain ⟨c0, c1, c2, c3⟩ := c
 obtain ⟨cap, rfl⟩ : ∃ k, cap = k + 1 := ⟨cap - 1, by simp at hc; omega⟩
 have HE := Lib.hid fun W (hb' : Below w.heap.size w W) => qAj b o cap x.k x.n x.t ⟨#[]⟩ n hk W (KL.below hL hb') (Nat.lt_of_lt_of_le hb hb'.size) hm (by rw [hb'.cell (by exact hb)]; exact c0) (by rw [hb'.cell (by exact hb)]; exact c1) (by rw [hb'.cell (by exact hb)]; exact c2) (by rw [hb'.cell (by exact hb)]; exact c3)
 clear hL hcell h hk c0 c1 c2 c3
 simp only [List.length_singleton]
 go_enter Tryz.func152, Tryz.ntmps152
 go_wp2_with fail
 refine (HE.out _ (Below.refl _ _)).mono ?_
 rintro e w1 ⟨⟨g, q, rfl, hp1⟩, hb1⟩
 have HV := Lib.hid (qIJ g q _ ⟨#[]⟩ n w1 hp1)
 have HB1 := Lib.hid hb1
 clear hb1 hp1 HE hw
 go_wp2_with (go_at_call 190; refine HV.out.mono ?_; rintro e w2 ⟨rfl, hb2⟩; have HB2 := Lib.hid (HB1.out.trans (hb2.mono HB1.out.size)); clear hb2)
 go_ret2
 exact ⟨rfl, HB2.out.alloc HB2.out.size _⟩
theorem WR.c1 {w : World} {B gw : Nat} {lv : Value} {mb : Nat} {k : Int} {ps : List (Value × Int)} (h : WR w B gw lv mb k ps) : w.cell? ⟨gw, 1, none⟩ = some (.slice none 0 0) := qB h.box rfl
theorem qFt (gw mb : Nat) (lv : Value) (k : Int) (ps : List (Value × Int)) (m b o cap : Nat) (ad : Option Addr) (len lcap : Nat) (p0 : Int) (x : Tk) (r0 : Tk) (v1 : Value) (p1 : Int) (t1 : List Tk) (d : Int) (w : World) (B : Nat) (hB : B <= w.heap.size) (h : WR w B gw lv mb k ps) (hd0 : 0 <= d) (hd : d <= 5) (hX : Xp.KLaid w)
  (ht : PReads w (.slice ad len lcap) [r0, x]) (hx : AtomK x.k x.n x.t ⟨#[]⟩ m)
  (hm : m <= 200) (hl : ps.length + m <= 200) (hk0 : 0 <= k) (hk : k + m <= 4000) (hcap : 1 <= cap) (hmax : cap <= maxLen) (hbg : b ≠ gw) (hL : Line1 gw B w b o v1 p1 t1) (hp : PlainHead (headS t1)) :
  Calls Tryz.prog 122 #[.pointer (some ⟨gw, 0, none⟩), .string hdRept, .agg #[.slice ad len lcap, .int .i64 p0, .slice (some ⟨b, o, none⟩) 1 cap, .slice none 0 0, .int .i64 3], .int .i64 d] w fun r w' => r = .returned (.agg #[.int .i64 0, .int .i64 0]) /\ (∃ lv', WR w' B gw lv' mb (k + m) (ps ++ List.replicate m (v1, p1))) /\ Fr gw B w w' /\ KT w w' := by
 have HBH := Lib.hid fun W (hb : Below w.heap.size w W) => qo (.slice ad len lcap) [r0, x] W (ht.below hb (Nat.le_refl _))
 have HNU := Lib.hid fun v W (hb : Below w.heap.size w W) (hv : PReads W v [x]) => qF4 gw v x m hx W (KL.below hX hb) hv (h.go hb).c1
 have HRE := Lib.hid fun W (hb : Below w.heap.size w W) => qFq gw mb lv k ps m b o cap ad len lcap p0 v1 p1 t1 d W B (Nat.le_trans hB hb.size) (h.go hb) hd0 hd hm hl hk0 hk hcap hmax hbg (hL.go (Fr.below (hb.mono hB))) hp
 clear hL h hp ht hx hX
 unfold hdRept
 simp only [List.tail_cons] at HBH
 go_enter Tryz.func122, Tryz.ntmps122
 go_wp2_with fail
 refine (HBH.out _ (by go_grown)).mono ?_
 rintro e w1 ⟨⟨v', rfl, hv'⟩, hb1⟩
 have x0 : w1.heap[w.heap.size]? = some (.cells #[.slice ad len lcap, .int .i64 p0, .slice (some ⟨b, o, none⟩) 1 cap, .slice none 0 0, .int .i64 3] 218 (0, 0)) := by
  rw [hb1.block _ (by go_size), old2 _ _ (by go_size)]
  exact qG _ _ rfl
 have x1 : w1.heap[w.heap.size + 1]? = some (.cells #[.int .i64 0, .int .i64 0] 38 (0, 0)) := by
  rw [hb1.block _ (by go_size)]
  exact qG _ _ (by go_size)
 have hB1 : Below w.heap.size w w1 := Below.trans (by go_grown) (hb1.mono (by go_size))
 have HN1 := Lib.hid (HNU.out v' w1 hB1 (hv'.below hb1 (Nat.le_refl _)))
 obtain ⟨va, vc, hvs, _⟩ := hv'
 simp only [List.length_singleton] at hvs
 subst hvs
 have HB1 := Lib.hid hB1
 have X0 := Lib.hid x0
 have X1 := Lib.hid x1
 clear hb1 hB1 x0 x1 HBH HNU
 go_wp2_with (go_at_call 152; refine HN1.out.mono ?_; rintro e w2 ⟨rfl, hb2⟩; have hB2 := HB1.out.trans (hb2.mono HB1.out.size); have y0 := (hb2.block _ (qC X0.out)).trans X0.out; have y1 := (hb2.block _ (qC X1.out)).trans X1.out; have d0 : w2.cell? ⟨w.heap.size, 0, none⟩ = some (.slice ad len lcap) := qB y0 rfl; have d1 : w2.cell? ⟨w.heap.size, 1, none⟩ = some (.int .i64 p0) := qB y0 rfl; have d2 : w2.cell? ⟨w.heap.size, 2, none⟩ = some (.slice (some ⟨b, o, none⟩) 1 cap) := qB y0 rfl; have d3 : w2.cell? ⟨w.heap.size, 3, none⟩ = some (.slice none 0 0) := qB y0 rfl; have d4 : w2.cell? ⟨w.heap.size, 4, none⟩ = some (.int .i64 3) := qB y0 rfl; have hz0 := qC y0; have HB2 := Lib.hid hB2; have Y1 := Lib.hid y1; clear hb2 hB2 y0 y1)
 refine (HRE.out _ HB2.out).mono ?_
 rintro e w3 ⟨rfl, hw3, hf3, hk3⟩
 have y3 := hk3 _ _ _ _ Y1.out (by decide) (by decide)
 obtain ⟨⟨u0, u1⟩, f0, f1⟩ := qV y3
 have hz3 := qC y3
 have HW3 := Lib.hid hw3
 have HF3 := Lib.hid hf3
 have HK3 := Lib.hid hk3
 have Y3 := Lib.hid y3
 clear hw3 hf3 hk3 y3 HRE d0 d1 d2 d3 d4 HN1
 go_wp2
 refine bodyPost_ret (v := .agg #[.int .i64 0, .int .i64 0]) (by simp [results, Tryz.results122, go_sem, u0, u1]) rfl ⟨rfl, ?_, ?_, ?_⟩
 ·obtain ⟨lv', h2⟩ := HW3.out
  exact ⟨lv', (h2.put Y3.out (by decide) (by decide) 0 _).put (qI Y3.out) (by decide) (by decide) 1 _⟩
 ·exact ((Fr.below (HB2.out.mono hB)).trans HF3.out).trans (Fr.below (((Below.refl _ _).setCell (by show B <= w.heap.size + 1; omega) _).setCell (by show B <= w.heap.size + 1; omega) _))
 ·exact ((KT.below HB2.out).trans HK3.out).trans (KT.below ((qd Y3.out rfl).trans (qd (qAa Y3.out rfl) rfl)))
theorem qII (gw mb : Nat) (lv : Value) (k : Int) (ps : List (Value × Int)) (m b o n cap : Nat) (v0 v1 v2 : Value) (p0 p1 p2 : Int) (x r0 x2 : Tk) (t1 : List Tk) (d : Int) (w : World) (B : Nat) (hB : B <= w.heap.size) (h : WR w B gw lv mb k ps) (hd0 : 0 <= d) (hd : d <= 5) (hX : Xp.KLaid w)
  (hL : ∀ W, Fr gw B w W -> L3 W b o v0 v1 v2 p0 p1 p2 [r0, x] t1 [x2]) (hn : n + 3 <= 1000) (hc : n + 3 <= cap) (hcm : cap <= maxLen) (h0 : headS [r0, x] = hdRept) (h1 : PlainHead (headS t1)) (h2 : headS [x2] = hdEndr) (hx : AtomK x.k x.n x.t ⟨#[]⟩ m)
  (hm : m <= 200) (hl : ps.length + m <= 200) (hk0 : 0 <= k) (hk : k + m <= 4000) (hbg : b ≠ gw) :
  Calls Tryz.prog 90 #[.pointer (some ⟨gw, 0, none⟩), .slice (some ⟨b, o, none⟩) (n + 3) cap, .int .i64 d] w fun r w' => r = .returned (.tuple #[.int .i64 3, .agg #[.int .i64 0, .int .i64 0]]) /\ (∃ lv', WR w' B gw lv' mb (k + m) (ps ++ List.replicate m (v1, p1))) /\ Fr gw B w w' /\ KT w w' := by
 have hV := hL w (Fr.refl _ _ _)
 have HH := Lib.hid fun W (hb : Below w.heap.size w W) => qBB v0 [r0, x] W (hV.r0.below hb (Nat.le_refl _))
 have HCU := Lib.hid fun W (hb : Below w.heap.size w W) => cut_rept b o n cap v0 v1 v2 p0 p1 p2 [r0, x] t1 x2 W (hV.go hb) hn hc hcm h0 h1 h2
 obtain ⟨a0, n0, k0, rfl⟩ := hV.s0
 have HBL := Lib.hid fun W (hb : Below w.heap.size w W) => qFt gw mb lv k ps m b (o + 2) (cap - 1) a0 n0 k0 p0 x r0 v1 p1 t1 d W B (Nat.le_trans hB hb.size) (h.go hb) hd0 hd (KL.below hX hb) (hV.r0.below hb (Nat.le_refl _)) hx hm hl hk0 hk (by omega) (by omega) hbg (fun X hF => by
  have hl3 := hL X ((Fr.below (hb.mono hB)).trans hF)
  exact ⟨hl3.lt, hl3.c1, hl3.d1, hl3.r1⟩) h1
 have hlt := hV.lt
 have c0 := hV.c0
 have d0 := hV.d0
 rw [h0] at HH
 generalize cap - 1 = c at HCU HBL
 clear hL h h0 h1 h2 hx hX hV
 unfold hdRept at *
 go_enter Tryz.func90, Tryz.ntmps90
 go_wp2_with fail
 refine (HH.out _ (by go_grown)).mono ?_
 rintro e w1 ⟨rfl, hb1⟩
 have HB1 : Hid (Below w.heap.size w w1) := by
  refine Below.trans ?_ (hb1.mono (by go_size))
  go_grown
 have x0 : w1.heap[w.heap.size]? = some (.cells #[.int .i64 0, .int .i64 0] 38 (0, 0)) := by
  rw [hb1.block _ (by go_size), old2 _ _ (by go_size)]
  exact qG _ _ (by go_size)
 have X0 := Lib.hid x0
 clear hb1 x0 HH c0 d0
 go_wp2_with fail
 refine (HCU.out _ HB1.out).mono ?_
 rintro e w2 ⟨rfl, hb2⟩
 have HB2 := Lib.hid (HB1.out.trans (hb2.mono HB1.out.size))
 have X2 := Lib.hid ((hb2.block _ (qC X0.out)).trans X0.out)
 clear hb2 HB1 X0 HCU
 go_wp2_with fail
 have hB3 : Below w.heap.size w ((w2.alloc (.cells #[.slice a0 n0 k0, .int .i64 p0, .slice (some ⟨b, o + 2, none⟩) 1 c, .slice none 0 0, .int .i64 3] 218)).alloc (.cells #[.int .i64 0, .int .i64 0] 38)) := (HB2.out.alloc HB2.out.size _).alloc (Nat.le_trans HB2.out.size (by simp)) _
 have x3 : ((w2.alloc (.cells #[.slice a0 n0 k0, .int .i64 p0, .slice (some ⟨b, o + 2, none⟩) 1 c, .slice none 0 0, .int .i64 3] 218)).alloc (.cells #[.int .i64 0, .int .i64 0] 38)).heap[w2.heap.size]? = some (.cells #[.slice a0 n0 k0, .int .i64 p0, .slice (some ⟨b, o + 2, none⟩) 1 c, .slice none 0 0, .int .i64 3] 218 (0, 0)) := by
  rw [old2 _ _ (by simp)]
  exact qG _ _ rfl
 have y3 : ((w2.alloc (.cells #[.slice a0 n0 k0, .int .i64 p0, .slice (some ⟨b, o + 2, none⟩) 1 c, .slice none 0 0, .int .i64 3] 218)).alloc (.cells #[.int .i64 0, .int .i64 0] 38)).heap[w.heap.size]? = some (.cells #[.int .i64 0, .int .i64 0] 38 (0, 0)) := by
  have hz := qC X2.out
  rw [old2 _ _ (by simp; omega), old2 _ _ hz]
  exact X2.out
 generalize (w2.alloc (.cells #[.slice a0 n0 k0, .int .i64 p0, .slice (some ⟨b, o + 2, none⟩) 1 c, .slice none 0 0, .int .i64 3] 218)).alloc (.cells #[.int .i64 0, .int .i64 0] 38) = W3 at *
 generalize w2.heap.size = g2 at *
 have d0 : W3.cell? ⟨g2, 0, none⟩ = some (.slice a0 n0 k0) := qB x3 rfl
 have d1 : W3.cell? ⟨g2, 1, none⟩ = some (.int .i64 p0) := qB x3 rfl
 have d2 : W3.cell? ⟨g2, 2, none⟩ = some (.slice (some ⟨b, o + 2, none⟩) 1 c) := qB x3 rfl
 have d3 : W3.cell? ⟨g2, 3, none⟩ = some (.slice none 0 0) := qB x3 rfl
 have d4 : W3.cell? ⟨g2, 4, none⟩ = some (.int .i64 3) := qB x3 rfl
 have hz3 := qC x3
 have HB3 := Lib.hid hB3
 have X3 := Lib.hid x3
 have Y3 := Lib.hid y3
 clear HB2 X2 hB3 x3 y3
 go_region_with (go_at_call 122; refine (HBL.out _ HB3.out.drew).mono ?_; rintro e w4 ⟨rfl, hw4, hf4, hk4⟩; have x4 := hk4 _ _ _ _ X3.out (by decide) (by decide); have y4 := hk4 _ _ _ _ Y3.out (by decide) (by decide); have q4 : w4.cell? ⟨g2, 4, none⟩ = some (.int .i64 3) := qB x4 rfl; have hz4 := qC x4; obtain ⟨⟨u0, u1⟩, f0, f1⟩ := qV y4; have hz5 := qC y4; have HW4 := Lib.hid hw4; have HF4 := Lib.hid hf4; have HK4 := Lib.hid hk4; have Y4 := Lib.hid y4; clear hw4 hf4 hk4 x4 y4)
 all_goals
  go_wp2
  refine bodyPost_ret (v := .tuple #[.int .i64 3, .agg #[.int .i64 0, .int .i64 0]]) (by simp [results, Tryz.results90, go_sem, u0, u1]) rfl ⟨rfl, ?_, ?_, ?_⟩
  ·obtain ⟨lv', h2⟩ := HW4.out
   exact ⟨lv', (h2.put Y4.out (by decide) (by decide) 0 _).put (qI Y4.out) (by decide) (by decide) 1 _⟩
  ·exact ((Fr.below (HB3.out.drew.mono hB)).trans HF4.out).trans (Fr.below (((Below.refl _ _).setCell hB _).setCell hB _))
  ·exact ((KT.below HB3.out.drew).trans HK4.out).trans (KT.below ((qd Y4.out rfl).trans (qd (qAa Y4.out rfl) rfl)))
inductive Pl where
 | one
 | rep (m : Nat)
def cksOf (f : Nat -> Value × Int) : Nat -> List Pl -> List Ck
 | _, [] => []
 | j, .one :: r => ⟨1, 1, [f j]⟩ :: cksOf f (j + 1) r
 | j, .rep m :: r => ⟨3, 1 + m, List.replicate m (f (j + 1))⟩ :: cksOf f (j + 3) r
def idxOf : Nat -> List Pl -> List Nat
 | _, [] => []
 | j, .one :: r => j :: idxOf (j + 1) r
 | j, .rep m :: r => List.replicate m (j + 1) ++ idxOf (j + 3) r
def lkOf : List Pl -> Nat
 | [] => 0
 | .one :: r => 1 + lkOf r
 | .rep m :: r => 1 + m + lkOf r
def OneOk (ls : List Sc.Ln) (j : Nat) : Prop := ∃ l, ls[j]? = some l /\ PlainHead (headS (l.toks.map tkOf))
def RepOk (ls : List Sc.Ln) (j m : Nat) : Prop := ∃ l0 l1 l2 r0 x x2, ls[j]? = some l0 /\ ls[j + 1]? = some l1 /\ ls[j + 2]? = some l2 /\ l0.toks.map tkOf = [r0, x] /\ headS [r0, x] = hdRept /\ AtomK x.k x.n x.t ⟨#[]⟩ m /\ PlainHead (headS (l1.toks.map tkOf)) /\ l2.toks.map tkOf = [x2] /\ headS [x2] = hdEndr
def PlOk (ls : List Sc.Ln) : Nat -> List Pl -> Prop
 | j, [] => j = ls.length
 | j, .one :: r => OneOk ls j /\ PlOk ls (j + 1) r
 | j, .rep m :: r => RepOk ls j m /\ PlOk ls (j + 3) r
theorem qC8 (f : Nat -> Value × Int) : ∀ (pl : List Pl) (j : Nat), outC (cksOf f j pl) = (idxOf j pl).map f
 | [], j => rfl
 | .one :: r, j => by
   have := qC8 f r (j + 1)
   simp only [cksOf, idxOf, outC, List.flatMap_cons, List.map_cons] at this ⊢
   rw [this]
   rfl
 | .rep m :: r, j => by
   have := qC8 f r (j + 3)
   simp only [cksOf, idxOf, outC, List.flatMap_cons, List.map_append, List.map_replicate] at this ⊢
   rw [this]
theorem qBD (f : Nat -> Value × Int) : ∀ (pl : List Pl) (j : Nat), lookC (cksOf f j pl) = lkOf pl
 | [], j => rfl
 | .one :: r, j => by
   have := qBD f r (j + 1)
   simp only [cksOf, lkOf, lookC, List.map_cons, List.sum_cons] at this ⊢
   rw [this]
 | .rep m :: r, j => by
   have := qBD f r (j + 3)
   simp only [cksOf, lkOf, lookC, List.map_cons, List.sum_cons] at this ⊢
   rw [this]
theorem qET (f : Nat -> Value × Int) (ls : List Sc.Ln) : ∀ (pl : List Pl) (j : Nat), PlOk ls j pl -> j + posC (cksOf f j pl) = ls.length
 | [], j, h => by simpa [cksOf, posC, PlOk] using h
 | .one :: r, j, h => by
   have := qET f ls r (j + 1) h.2
   simp only [cksOf, posC, List.map_cons, List.sum_cons] at this ⊢
   omega
 | .rep m :: r, j, h => by
   have := qET f ls r (j + 3) h.2
   simp only [cksOf, posC, List.map_cons, List.sum_cons] at this ⊢
   omega
theorem qIg (f : Nat -> Value × Int) : ∀ (pl : List Pl) (j : Nat) (x : Ck), x ∈ cksOf f j pl -> (x.c = 1 \/ x.c = 3) /\ 1 <= x.lk
 | [], j, x, h => by simp [cksOf] at h
 | .one :: r, j, x, h => by
   simp only [cksOf, List.mem_cons] at h
   rcases h with rfl | h
   ·simp
   ·exact qIg f r _ x h
 | .rep m :: r, j, x, h => by
   simp only [cksOf, List.mem_cons] at h
   rcases h with rfl | h
   ·simp
   ·exact qIg f r _ x h
theorem qHL (ls : List Sc.Ln) : ∀ (pl : List Pl) (j : Nat), PlOk ls j pl -> ∀ i, i ∈ idxOf j pl -> i < ls.length
 | [], j, h, i, hi => by simp [idxOf] at hi
 | .one :: r, j, h, i, hi => by
   simp only [idxOf, List.mem_cons] at hi
   rcases hi with rfl | hi
   ·obtain ⟨⟨l, hl, _⟩, _⟩ := h
    exact (List.getElem?_eq_some_iff.1 hl).1
   ·exact qHL ls r _ h.2 i hi
 | .rep m :: r, j, h, i, hi => by
   simp only [idxOf, List.mem_append] at hi
   rcases hi with hi | hi
   ·obtain rfl := (List.mem_replicate.1 hi).2
    obtain ⟨⟨l0, l1, l2, r0, x, x2, _, hl, _⟩, _⟩ := h
    exact (List.getElem?_eq_some_iff.1 hl).1
   ·exact qHL ls r _ h.2 i hi
theorem pl_at (f : Nat -> Value × Int) (ls : List Sc.Ln) : ∀ (pl : List Pl) (j i : Nat), PlOk ls j pl -> (h : i < (cksOf f j pl).length) ->
  ((cksOf f j pl)[i] = ⟨1, 1, [f (j + posC ((cksOf f j pl).take i))]⟩ /\ OneOk ls (j + posC ((cksOf f j pl).take i))) \/ ∃ m, (cksOf f j pl)[i] = ⟨3, 1 + m, List.replicate m (f (j + posC ((cksOf f j pl).take i) + 1))⟩ /\ RepOk ls (j + posC ((cksOf f j pl).take i)) m
 | [], j, i, hp, h => by simp [cksOf] at h
 | .one :: r, j, 0, hp, h => .inl ⟨by simp [cksOf, posC], by simpa [posC] using hp.1⟩
 | .rep m :: r, j, 0, hp, h => .inr ⟨m, by simp [cksOf, posC], by simpa [posC] using hp.1⟩
 | .one :: r, j, i + 1, hp, h => by
   have hi : i < (cksOf f (j + 1) r).length := by simpa [cksOf] using h
   have ih := pl_at f ls r (j + 1) i hp.2 hi
   have e : j + posC ((cksOf f j (.one :: r)).take (i + 1)) = j + 1 + posC ((cksOf f (j + 1) r).take i) := by
    simp only [cksOf, List.take_succ_cons, posC, List.map_cons, List.sum_cons]
    omega
   rw [e]
   simpa [cksOf] using ih
 | .rep m :: r, j, i + 1, hp, h => by
   have hi : i < (cksOf f (j + 3) r).length := by simpa [cksOf] using h
   have ih := pl_at f ls r (j + 3) i hp.2 hi
   have e : j + posC ((cksOf f j (.rep m :: r)).take (i + 1)) = j + 3 + posC ((cksOf f (j + 3) r).take i) := by
    simp only [cksOf, List.take_succ_cons, posC, List.map_cons, List.sum_cons]
    omega
   rw [e]
   simpa [cksOf] using ih
theorem qDH {ls : List Sc.Ln} {j : Nat} {l : Sc.Ln} (h : ls[j]? = some l) : ∃ hj : j < ls.length, ls[j] = l := List.getElem?_eq_some_iff.1 h
theorem plan_do (gw mb g0 : Nat) (ls : List Sc.Ln) (pl : List Pl) (f : Nat -> Value × Int) (w0 W1 : World) (hg0 : g0 = w0.heap.size) (hf : RdAt w0 W1 ls.length ls ls.length f) (hgw : gw < w0.heap.size) (h : WR W1 W1.heap.size gw (.slice none 0 0) mb 0 []) (hX : Xp.KLaid W1) (hkg : 11 < gw)
  (hpl : PlOk ls 0 pl) (hn : ls.length <= 1000) (ho : (idxOf 0 pl).length <= 200) (hk : lkOf pl <= 4000) :
  Calls Tryz.prog 70 #[.pointer (some ⟨gw, 0, none⟩), .slice (some ⟨g0, 0, none⟩) ls.length ls.length, .int .i64 0] W1 fun r w' => r = .returned (.agg #[.int .i64 0, .int .i64 0]) /\ (∃ lv', WR w' W1.heap.size gw lv' mb (0 + (lkOf pl : Int)) ([] ++ (idxOf 0 pl).map f)) /\ Fr gw W1.heap.size W1 w' /\ KT W1 w' := by
 have hrow := hf.1
 rw [<- hg0] at hrow
 have hlt := hrow.lt
 have hpos := qET f ls pl 0 hpl
 rw [Nat.zero_add] at hpos
 have := do_gen gw mb (.slice none 0 0) 0 [] g0 0 ls.length (cksOf f 0 pl) 0 W1 W1.heap.size (Nat.le_refl _) h (by omega) (by omega) (by omega) (by rw [qBD]; omega) (by omega) (by unfold maxLen; omega) (qIg f pl 0) hlt (by omega) (fun j hj W lv' hF hK hW => by
  have hr := hrow.keep (hF.block g0 hlt (by omega))
  have hbw : g0 < W.heap.size := hr.lt
  have hps := qB7 _ hj
  have hpt := qB0 (cksOf f 0 pl) (j + 1)
  have hls := qBf _ hj
  have hlt2 := qCc (cksOf f 0 pl) (j + 1)
  rw [qBD] at hlt2
  have hos := qIn (cksOf f 0 pl) (j + 1)
  rw [List.take_succ_eq_append_getElem hj, qDU, List.length_append, qC8, List.length_map] at hos
  have hrd : ∀ i (hi : i < ls.length), W.cell? ⟨g0, i * 2, none⟩ = some (f i).1 /\ W.cell? ⟨g0, i * 2 + 1, none⟩ = some (.int .i64 (f i).2) /\ PReads W (f i).1 (ls[i].toks.map tkOf) := fun i hi => by
   obtain ⟨a1, a2, a3⟩ := hf.2.1 i hi hi
   exact ⟨hr.cell0 hi, hr.cell1 hi, a2.fr (fun e => by have := a3 _ e; omega) hF (Nat.le_refl _)⟩
  have hat := pl_at f ls pl 0 j hpl hj
  simp only [Nat.zero_add] at hat
  generalize posC ((cksOf f 0 pl).take j) = q at *
  generalize lookC ((cksOf f 0 pl).take j) = z at *
  generalize outC ((cksOf f 0 pl).take j) = os at *
  rcases hat with ⟨e, l, hl, hh⟩ | ⟨m, e, l0, l1, l2, r0, x, x2, h0, h1, h2, ht, hhd, ha, hp1, ht2, hh2⟩
  ·rw [e] at hps hls hos ⊢
   obtain ⟨hq, rfl⟩ := qDH hl
   obtain ⟨r0, r1, r2⟩ := hrd q hq
   obtain ⟨ad, len, lcap, he⟩ := r2.shape
   rw [he] at r0 r2
   obtain ⟨n, hn'⟩ : ∃ n, posC (cksOf f 0 pl) - q = n + 1 := ⟨posC (cksOf f 0 pl) - q - 1, by simp only at hps; omega⟩
   rw [hn']
   have he2 : f q = (.slice ad len lcap, (f q).2) := by rw [<- he]
   rw [he2]
   simp only [Nat.zero_add] at hos ⊢
   refine (qFG gw mb lv' (0 + z + 1) ([] ++ os) g0 (q * 2) n (ls.length - q) ad len lcap (f q).2 0 _ W W1.heap.size hF.size hW (by simp at hos ⊢; omega) r0 r1 hbw r2 hh).mono ?_
   rintro r w' ⟨rfl, k1, k2, k3⟩
   exact ⟨rfl, k1, k2, KT.of hW k3⟩
  ·rw [e] at hps hls hos ⊢
   obtain ⟨hq0, rfl⟩ := qDH h0
   obtain ⟨hq1, rfl⟩ := qDH h1
   obtain ⟨hq2, rfl⟩ := qDH h2
   obtain ⟨n, hn'⟩ : ∃ n, posC (cksOf f 0 pl) - q = n + 3 := ⟨posC (cksOf f 0 pl) - q - 3, by simp only at hps; omega⟩
   rw [hn']
   have hmm : m <= 200 := by simp at hos; omega
   simp only [Nat.zero_add] at hos hps hls ⊢
   have hL3 : ∀ X, Fr gw W1.heap.size W X -> L3 X g0 (q * 2) (f q).1 (f (q + 1)).1 (f (q + 2)).1 (f q).2 (f (q + 1)).2 (f (q + 2)).2 [r0, x] (ls[q + 1].toks.map tkOf) [x2] := fun X hX => by
    have hF2 := hF.trans hX
    have hr2 := hrow.keep (hF2.block g0 hlt (by omega))
    have hrd2 : ∀ i (hi : i < ls.length), X.cell? ⟨g0, i * 2, none⟩ = some (f i).1 /\ X.cell? ⟨g0, i * 2 + 1, none⟩ = some (.int .i64 (f i).2) /\ PReads X (f i).1 (ls[i].toks.map tkOf) := fun i hi => by
     obtain ⟨a1, a2, a3⟩ := hf.2.1 i hi hi
     exact ⟨hr2.cell0 hi, hr2.cell1 hi, a2.fr (fun e => by have := a3 _ e; omega) hF2 (Nat.le_refl _)⟩
    obtain ⟨u0, u1, u2⟩ := hrd2 q hq0
    obtain ⟨v0, v1, v2⟩ := hrd2 (q + 1) hq1
    obtain ⟨y0, y1, y2⟩ := hrd2 (q + 2) hq2
    rw [show (q + 1) * 2 = q * 2 + 2 by omega] at v0 v1
    rw [show (q + 2) * 2 = q * 2 + 4 by omega] at y0 y1
    rw [ht] at u2
    rw [ht2] at y2
    exact ⟨hr2.lt, u2.shape, v2.shape, y2.shape, u0, u1, v0, v1, y0, y1, u2, v2, y2⟩
   have := qII gw mb lv' (0 + z + 1) ([] ++ os) m g0 (q * 2) n (ls.length - q) _ _ _ _ _ _ x r0 x2 _ 0 W W1.heap.size hF.size hW (by omega) (by omega) (hX.below (show Below gw W1 W from ⟨hF.os, hF.tape, hF.output, hF.size, fun i hi => hF.block i (by omega) (by omega)⟩) hkg) hL3 (by omega) (by omega) (by unfold maxLen; omega) hhd hp1 hh2 ha hmm (by simp at hos ⊢; omega) (by omega) (by omega) (by omega)
   refine this.mono ?_
   rintro r w' ⟨rfl, ⟨lv2, k1⟩, k2, k3⟩
   refine ⟨rfl, ⟨lv2, ?_⟩, k2, k3⟩
   have e9 : (0 : Int) + z + 1 + m = 0 + z + ((1 + m : Nat) : Int) := by omega
   rw [e9] at k1
   exact k1)
 rw [hpos, qBD, qC8] at this
 exact this
def plLines (ls : List Sc.Ln) (pl : List Pl) : List Sc.Ln := (idxOf 0 pl).map fun i => ls.getD i ⟨0, []⟩
theorem qHJ (v : Value) (ls : List Sc.Ln) (pl : List Pl) (w : World) (h : LIn w v ls) (hX : Xp.KLaid w) (hpl : PlOk ls 0 pl) (hn : ls.length <= 1000) (ho : (idxOf 0 pl).length <= 200) (hk : lkOf pl <= 4000) (hts : ∀ l, l ∈ ls -> l.toks.length <= 100000) :
  Calls Tryz.prog 45 #[v] w fun r w' => (∃ lv, r = .returned (.tuple #[lv, .slice none 0 0, .agg #[.int .i64 0, .int .i64 0]]) /\ LRd w' lv ((plLines ls pl).map lnOf)) /\ Below w.heap.size w w' := by
 have hmm : ∀ w, (Instr.makeMap 134 none).run Tryz.prog w = .ok (.map (some w.heap.size)) (w.alloc (.map #[] 0)) := fun w => rfl
 obtain ⟨ad, cap, rfl, _⟩ := id h
 have HI := Lib.hid h
 have HP := Lib.hid hpl
 have HX := Lib.hid hX
 have HTS := Lib.hid hts
 clear h hpl hts hX
 go_enter Tryz.func45, Tryz.ntmps45
 go_wp2_with fail
 have hB0 : Below w.heap.size w (((w.alloc (.cells #[.int .i64 0, .int .i64 0] 38)).alloc (.map #[] 0)).alloc (.cells #[.slice none 0 0, .slice none 0 0, .map (some (w.heap.size + 1)), .int .i64 0] 136)) := by go_grown
 have hb1 : (((w.alloc (.cells #[.int .i64 0, .int .i64 0] 38)).alloc (.map #[] 0)).alloc (.cells #[.slice none 0 0, .slice none 0 0, .map (some (w.heap.size + 1)), .int .i64 0] 136)).heap[w.heap.size + 1 + 1]? = some (.cells #[.slice none 0 0, .slice none 0 0, .map (some (w.heap.size + 1)), .int .i64 0] 136 (0, 0)) := qG _ _ (by go_size)
 have hb2 : (((w.alloc (.cells #[.int .i64 0, .int .i64 0] 38)).alloc (.map #[] 0)).alloc (.cells #[.slice none 0 0, .slice none 0 0, .map (some (w.heap.size + 1)), .int .i64 0] 136)).heap[w.heap.size + 1]? = some (.map #[] 0) := by
  rw [old2 _ _ (by go_size)]
  exact qG _ _ (by go_size)
 have hb3 : (((w.alloc (.cells #[.int .i64 0, .int .i64 0] 38)).alloc (.map #[] 0)).alloc (.cells #[.slice none 0 0, .slice none 0 0, .map (some (w.heap.size + 1)), .int .i64 0] 136)).heap[w.heap.size]? = some (.cells #[.int .i64 0, .int .i64 0] 38 (0, 0)) := by
  rw [old2 _ _ (by go_size), old2 _ _ (by go_size)]
  exact qG _ _ (by go_size)
 have hz0 : (((w.alloc (.cells #[.int .i64 0, .int .i64 0] 38)).alloc (.map #[] 0)).alloc (.cells #[.slice none 0 0, .slice none 0 0, .map (some (w.heap.size + 1)), .int .i64 0] 136)).heap.size = w.heap.size + 3 := by simp
 generalize (((w.alloc (.cells #[.int .i64 0, .int .i64 0] 38)).alloc (.map #[] 0)).alloc (.cells #[.slice none 0 0, .slice none 0 0, .map (some (w.heap.size + 1)), .int .i64 0] 136)) = W0 at *
 have hI0 : LIn W0 (.slice ad ls.length cap) ls := by
  obtain ⟨ad', cap', e, hh⟩ := HI.out
  refine ⟨ad', cap', e, fun h0 => ?_⟩
  obtain ⟨b, o, rfl, hlt, hc⟩ := hh h0
  refine ⟨b, o, rfl, by omega, fun i hi => ?_⟩
  obtain ⟨tv, a1, a2, a3⟩ := hc i hi
  exact ⟨tv, by rw [hB0.cell (by exact hlt)]; exact a1, by rw [hB0.cell (by exact hlt)]; exact a2, a3.below hB0 (Nat.le_refl _)⟩
 refine (qDE _ ls W0 hI0 (by omega) HTS.out).mono ?_
 rintro e W1 ⟨rfl, ⟨f, hf⟩, hB1⟩
 have hz1 : W0.heap.size < W1.heap.size := hf.1.lt
 have hW1 : WR W1 W1.heap.size (w.heap.size + 1 + 1) (.slice none 0 0) (w.heap.size + 1) 0 [] := ⟨by rw [hB1.block _ (by omega)]; exact hb1, by simpa [lnC] using World.ownsRow_nil W1 _ _ _, by rw [hB1.block _ (by omega)]; exact hb2, by omega⟩
 have HD := Lib.hid (plan_do (w.heap.size + 1 + 1) (w.heap.size + 1) W0.heap.size ls pl f W0 W1 rfl hf (by omega) hW1 (KL.below HX.out (hB0.trans (hB1.mono (by omega)))) (by have := HX.out.sz; omega) HP.out hn ho hk)
 have hil := qHL ls pl 0 HP.out
 have HAft : Hid (∀ W2, (∃ lv', WR W2 W1.heap.size (w.heap.size + 1 + 1) lv' (w.heap.size + 1) (0 + (lkOf pl : Int)) ([] ++ (idxOf 0 pl).map f)) -> Fr (w.heap.size + 1 + 1) W1.heap.size W1 W2 ->
   W2.heap[w.heap.size]? = some (.cells #[.int .i64 0, .int .i64 0] 38 (0, 0)) /\ Below w.heap.size w W2 /\ ∃ la lc, LRd W2 (.slice la (idxOf 0 pl).length lc) ((plLines ls pl).map lnOf) /\ W2.heap[w.heap.size + 1 + 1]? = some (.cells #[.slice la (idxOf 0 pl).length lc, .slice none 0 0, .map (some (w.heap.size + 1)), .int .i64 (0 + (lkOf pl : Int))] 136 (0, 0))) := fun W2 hw hF => by
  obtain ⟨lv', h2⟩ := hw
  refine ⟨?_, ?_, ?_⟩
  ·rw [hF.block _ (by omega) (by omega), hB1.block _ (by omega)]
   exact hb3
  ·have h01 : Below w.heap.size w W1 := hB0.trans (hB1.mono (by omega))
   exact ⟨hF.os.trans h01.os, hF.tape.trans h01.tape, hF.output.trans h01.output, Nat.le_trans h01.size hF.size, fun i hi => (hF.block i (by omega) (by omega)).trans (h01.block i hi)⟩
  ·have hsh := qE h2.row
   obtain ⟨la, lc, e⟩ := hsh
   have el : ([] ++ (idxOf 0 pl).map f).length = (idxOf 0 pl).length := by simp
   rw [el] at e
   subst e
   refine ⟨la, lc, ?_, h2.box⟩
   refine lrd_of h2.row (by simp [plLines]) fun i hi => ?_
   have hi' : i < (idxOf 0 pl).length := by simpa using hi
   have hq := hil _ (List.getElem_mem hi')
   obtain ⟨a1, a2, a3⟩ := hf.2.1 _ hq hq
   have hpr := a2.fr (fun e => by have := a3 _ e; omega) hF (Nat.le_refl _)
   simp only [List.nil_append, List.getElem_map, lnOf, plLines]
   have eg : ls.getD (idxOf 0 pl)[i] ⟨0, []⟩ = ls[(idxOf 0 pl)[i]] := by
    rw [List.getD_eq_getElem?_getD, List.getElem?_eq_getElem hq]
    rfl
   rw [eg]
   exact ⟨a1, hpr⟩
 clear hf hB1 hW1 hb1 hb2 hb3 hI0 hB0 HTS HP HI hz0 hz1 hil HX
 go_wp2_with (go_at_call 70; refine HD.out.mono ?_; rintro e W2 ⟨rfl, hw2, hf2, _⟩; obtain ⟨x0, hB2, la, lc, hLR, hbx⟩ := HAft.out W2 hw2 hf2; obtain ⟨⟨u0, u1⟩, f0, f1⟩ := qV x0; have hz2 := qC hbx; have d0 : W2.cell? ⟨w.heap.size + 1 + 1, 0, none⟩ = some (.slice la (idxOf 0 pl).length lc) := qB hbx rfl; have d1 : W2.cell? ⟨w.heap.size + 1 + 1, 1, none⟩ = some (.slice none 0 0) := qB hbx rfl; have HLR := Lib.hid hLR; have HB2 := Lib.hid hB2; have X0 := Lib.hid x0; clear hLR hbx hw2 hf2 hB2 x0)
 have hzr : w.heap.size < W2.heap.size := by omega
 go_region
 all_goals
  go_wp2
  refine bodyPost_ret (v := .tuple #[.slice la (idxOf 0 pl).length lc, .slice none 0 0, .agg #[.int .i64 0, .int .i64 0]]) (by simp [results, Tryz.results45, go_sem, World.cell?_alloc_lt, hzr, u0, u1]) rfl ⟨⟨_, rfl, ?_⟩, ?_⟩
  ·exact HLR.out.below (((qd X0.out rfl).trans (qd (qAa X0.out rfl) rfl)).alloc (by simp) _).drew (Nat.le_refl _)
  ·exact (((HB2.out.setCell (Nat.le_refl _) _).setCell (Nat.le_refl _) _).alloc (by simp; omega) _).drew
end Go.Proofs.YtfmljailbebfgaaGreatDoor
