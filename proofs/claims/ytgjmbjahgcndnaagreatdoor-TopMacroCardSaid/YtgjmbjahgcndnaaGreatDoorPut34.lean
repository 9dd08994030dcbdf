import Derived.Test.YtgjmbjahgcndnaaGreatDoorPut33
set_option maxHeartbeats 2000000
namespace Go.Proofs.YtgjmbjahgcndnaaGreatDoor
open Go.RowKit
theorem qKV (gu : Nat) (kd : ByteArray) (v : Value) (n : Int) (t : ByteArray) (w : World) (hL : Xp.qAT w) (h : qI w v [⟨3, 0, ⟨#[45]⟩⟩, ⟨2, n, t⟩]) (c0 : w.cell? ⟨gu, 0, none⟩ = some (.slice none 0 0)) :
  Calls Tryz.prog 164 #[.pointer (some ⟨gu, 0, none⟩), .string kd, v] w fun r w' => r = .returned (.tuple #[opV kd 0 ⟨#[]⟩ (wrap32 (-wrap32 n)), .int .i64 0]) /\ Below w.heap.size w w' := by
 have HM := Lib.hid fun W (hb : Below w.heap.size w W) => qIe v n t W (KL.below hL hb) (h.below hb (Nat.le_refl _))
 have hg : gu < w.heap.size := World.block_lt_of_cell? w _ c0
 obtain ⟨ad, cap, rfl, _⟩ := h
 clear hL
 generalize wrap32 (-wrap32 n) = m at *
 simp only [List.length_cons, List.length_nil] at *
 unfold opV
 go_enter Tryz.func164, Tryz.ntmps164
 go_wp2_with fail
 refine (HM.out _ (qE _ _)).mono ?_
 rintro e w1 ⟨rfl, hb1⟩
 obtain ⟨hB1, hz1, xr⟩ := qS hb1
 obtain ⟨⟨⟨u0, u1⟩, u2, u3⟩, ⟨f0, f1⟩, f2, f3⟩ := qAn xr
 have HB1 := Lib.hid hB1
 have XR := Lib.hid xr
 clear hb1 hB1 xr HM
 go_wp2_with fail
 exact bodyPost_ret (v := .tuple #[.agg #[.string kd, .int .i64 0, .string ⟨#[]⟩, .int .i64 m], .int .i64 0]) (by simp [results, Tryz.results164, go_sem, World.cell?_alloc_lt, hz1, u0, u1, u2, u3]) rfl ⟨rfl, ((((HB1.out.setCell (Nat.le_refl _) _).setCell (Nat.le_refl _) _).setCell (Nat.le_refl _) _).setCell (Nat.le_refl _) _).alloc (by simp; omega) _⟩
theorem qHD (gu : Nat) (v : Value) (sn : Int) (n : Int) (t : ByteArray) (w : World) (hL : Xp.qAT w) (h : qI w v [⟨3, sn, ⟨#[35]⟩⟩, ⟨3, 0, ⟨#[45]⟩⟩, ⟨2, n, t⟩]) (c0 : w.cell? ⟨gu, 0, none⟩ = some (.slice none 0 0)) :
  Calls Tryz.prog 131 #[.pointer (some ⟨gu, 0, none⟩), v] w fun r w' => r = .returned (.tuple #[opV ⟨#[35]⟩ 0 ⟨#[]⟩ (wrap32 (-wrap32 n)), .int .i64 0]) /\ Below w.heap.size w w' := by
 have hg : gu < w.heap.size := World.block_lt_of_cell? w _ c0
 have HN := Lib.hid fun W (hb : Below w.heap.size w W) => qBN v [⟨3, sn, ⟨#[35]⟩⟩, ⟨3, 0, ⟨#[45]⟩⟩, ⟨2, n, t⟩] W (h.below hb (Nat.le_refl _))
 have HE0 := Lib.hid fun v' W (hb : Below w.heap.size w W) (hv : qI W v' [⟨3, 0, ⟨#[45]⟩⟩, ⟨2, n, t⟩]) => qKV gu ⟨#[35]⟩ v' n t W (KL.below hL hb) hv (by rw [hb.cell (by exact hg)]; exact c0)
 have HST : Hid (∀ W, Calls Tryz.prog 125 #[tokV 3 sn ⟨#[35]⟩, .string ⟨#[35]⟩] W fun r w' => r = .returned (.bool true) /\ Below W.heap.size W w') := fun W => by
  have := qBq 3 sn ⟨#[35]⟩ ⟨#[35]⟩ W
  rwa [show ((3 : Int) == 3 && (⟨#[35]⟩ : ByteArray).toList == (⟨#[35]⟩ : ByteArray).toList) = true by simp] at this
 obtain ⟨ad, cap, rfl, _⟩ := h
 clear hL
 generalize wrap32 (-wrap32 n) = m at *
 unfold opV at *
 unfold Tk.V tokV qBQ at *
 simp only [List.length_cons, List.length_nil] at *
 go_enter Tryz.func131, Tryz.ntmps131
 go_wp2_with fail
 refine (HN.out _ (qE _ _)).mono ?_
 rintro e w1 ⟨⟨v', rfl, hv⟩, hb1⟩
 obtain ⟨ad', cap', rfl, _⟩ := id hv
 obtain ⟨hB1, hz1, xr⟩ := qS hb1
 simp only [List.tail_cons, List.length_cons, List.length_nil] at *
 have HPV := Lib.hid hv
 have HBV := Lib.hid hb1
 clear hb1 hv
 go_wp2_with fail
 refine (HST.out _).mono ?_
 rintro e w2 ⟨rfl, hb2⟩
 obtain ⟨hB2, hz2, xt⟩ := qS hb2
 have t0 : w2.cell? ⟨w1.heap.size, 0, none⟩ = some (.int .i64 3) := qB xt rfl
 have t1 : w2.cell? ⟨w1.heap.size, 1, none⟩ = some (.int .i64 sn) := qB xt rfl
 have t2 : w2.cell? ⟨w1.heap.size, 2, none⟩ = some (.string ⟨#[35]⟩) := qB xt rfl
 replace xr := (hB2.block _ (by omega)).trans xr
 have HB := Lib.hid (hB1.trans (hB2.mono (by omega)))
 replace HBV := Lib.hid (HBV.out.trans (hB2.mono HBV.out.size))
 clear hb2 hB2 hB1
 have XR := Lib.hid xr
 clear xr xt
 go_wp2_with fail
 refine (HE0.out _ _ HB.out (HPV.out.below HBV.out (Nat.le_refl _))).mono ?_
 rintro e w6 ⟨rfl, hb6⟩
 obtain ⟨⟨⟨u0, u1⟩, u2, u3⟩, ⟨f0, f1⟩, f2, f3⟩ := qAn ((hb6.block _ (by omega)).trans XR.out)
 have hz6 : w.heap.size < w6.heap.size := Nat.lt_of_lt_of_le (by omega) hb6.size
 replace HB := Lib.hid (HB.out.trans (hb6.mono (by omega)))
 clear hb6
 go_wp2_with fail
 exact bodyPost_ret (v := .tuple #[.agg #[.string ⟨#[35]⟩, .int .i64 0, .string ⟨#[]⟩, .int .i64 m], .int .i64 0]) (by simp [results, Tryz.results131, go_sem, u0, u1, u2, u3]) rfl ⟨rfl, (((HB.out.setCell (Nat.le_refl _) _).setCell (Nat.le_refl _) _).setCell (Nat.le_refl _) _).setCell (Nat.le_refl _) _⟩
structure L3 (w : World) (b o : Nat) (v0 v1 v2 : Value) (p0 p1 p2 : Int) (t0 t1 t2 : List Tk) : Prop where
 lt : b < w.heap.size
 s0 : ∃ a n c, v0 = .slice a n c
 s1 : ∃ a n c, v1 = .slice a n c
 s2 : ∃ a n c, v2 = .slice a n c
 c0 : w.cell? ⟨b, o, none⟩ = some v0
 d0 : w.cell? ⟨b, o + 1, none⟩ = some (.int .i64 p0)
 c1 : w.cell? ⟨b, o + 2, none⟩ = some v1
 d1 : w.cell? ⟨b, o + 3, none⟩ = some (.int .i64 p1)
 c2 : w.cell? ⟨b, o + 4, none⟩ = some v2
 d2 : w.cell? ⟨b, o + 5, none⟩ = some (.int .i64 p2)
 r0 : qI w v0 t0
 r1 : qI w v1 t1
 r2 : qI w v2 t2
theorem L3.go {w w' : World} {b o : Nat} {v0 v1 v2 : Value} {p0 p1 p2 : Int} {t0 t1 t2 : List Tk} (h : L3 w b o v0 v1 v2 p0 p1 p2 t0 t1 t2) (hb : Below w.heap.size w w') : L3 w' b o v0 v1 v2 p0 p1 p2 t0 t1 t2 :=
 ⟨Nat.lt_of_lt_of_le h.lt hb.size, h.s0, h.s1, h.s2, by rw [hb.cell (by exact h.lt)]; exact h.c0, by rw [hb.cell (by exact h.lt)]; exact h.d0, by rw [hb.cell (by exact h.lt)]; exact h.c1, by rw [hb.cell (by exact h.lt)]; exact h.d1, by rw [hb.cell (by exact h.lt)]; exact h.c2, by rw [hb.cell (by exact h.lt)]; exact h.d2, h.r0.below hb (Nat.le_refl _), h.r1.below hb (Nat.le_refl _), h.r2.below hb (Nat.le_refl _)⟩
theorem more_no (v : Value) (p : Int) (x : Tk) (w : World) (h : qI w v [x]) :
  Calls Tryz.prog 148 #[.agg #[v, .int .i64 p]] w fun r w' => r = .returned (.bool false) /\ Below w.heap.size w w' := by
 have HB := Lib.hid fun W (hb : Below w.heap.size w W) => qBn v [x] W (h.below hb (Nat.le_refl _))
 clear h
 go_enter Tryz.func148, Tryz.ntmps148
 go_wp2_with (go_at_call 122; refine (HB.out _ (by go_grown)).mono ?_; rintro e w1 ⟨⟨v', rfl, hv⟩, hb1⟩; obtain ⟨ad, cap, rfl, _⟩ := hv; have HB1 := Lib.hid hb1; clear hb1)
 go_ret
 exact ⟨rfl, Below.trans (by go_grown) (HB1.out.mono (by go_size))⟩
def qDn : ByteArray := ⟨#[46, 109, 97, 99, 114, 111]⟩
def qDY : ByteArray := ⟨#[46, 101, 110, 100, 109]⟩
theorem qLl (w : World) : Calls Tryz.prog 183 #[.string qDn] w fun r w' => r = .returned (.string qDY) /\ w = w' := by
 unfold qDn qDY
 go_enter Tryz.func183, Tryz.ntmps183
 go_wp2
 go_ret
 exact ⟨rfl, rfl⟩
theorem find_mac (b o n cap : Nat) (v0 v1 v2 : Value) (p0 p1 p2 : Int) (t0 t1 t2 : List Tk) (w : World) (h : L3 w b o v0 v1 v2 p0 p1 p2 t0 t1 t2) (hn : n + 3 <= 1000) (h0 : qA0 t0 = qDn) (h1 : qZ (qA0 t1)) (h2 : qA0 t2 = qDY) :
  Calls Tryz.prog 147 #[.slice (some ⟨b, o, none⟩) (n + 3) cap] w fun r w' => r = .returned (.tuple #[.int .i64 2, .int .i64 2]) /\ Below w.heap.size w w' := by
 have HH0 := Lib.hid fun W (hb : Below w.heap.size w W) => qBx v0 t0 W (h.r0.below hb (Nat.le_refl _))
 have HH1 := Lib.hid fun W (hb : Below w.heap.size w W) => qBx v1 t1 W (h.r1.below hb (Nat.le_refl _))
 have HH2 := Lib.hid fun W (hb : Below w.heap.size w W) => qBx v2 t2 W (h.r2.below hb (Nat.le_refl _))
 rw [h0] at HH0
 rw [h2] at HH2
 have HE := Lib.hid qLl
 have HV := Lib.hid h
 obtain ⟨a0, n0, k0, rfl⟩ := h.s0
 obtain ⟨a1, n1, k1, rfl⟩ := h.s1
 obtain ⟨a2, n2, k2, rfl⟩ := h.s2
 have hlt := h.lt
 have c0 := h.c0
 have d0 := h.d0
 clear h h0 h2
 generalize qA0 t1 = s at *
 have q1 := h1 _ (List.mem_of_getElem? (show heads[0]? = _ from rfl))
 have q4 := h1 _ (List.mem_of_getElem? (show heads[3]? = _ from rfl))
 have q6 := h1 _ (List.mem_of_getElem? (show heads[6]? = _ from rfl))
 unfold qDn qDY at *
 clear h1
 go_enter Tryz.func147, Tryz.ntmps147
 go_wp2_with (first | (go_at_call 118; refine (HH0.out _ (by go_grown)).mono ?_; rintro e w1 ⟨rfl, hb1⟩; have HB1 := Lib.hid hb1; clear hb1) | (go_at_call 183; refine (HE.out _).mono ?_; rintro e w2 ⟨rfl, rfl⟩))
 clear HE c0 d0
 go_loopw [6, 7, 19] (fun mv ov iv wr => ∃ k : Nat, k <= 2 /\ iv = .int .i64 k /\ mv = .int .i64 0 /\ ov = .int .i64 (if k = 0 then 0 else 1) /\ Hid (Below w.heap.size w wr)) (fun _ _ iv _ => 3 - (intOf iv).toNat)
 case atStart => exact ⟨0, by omega, rfl, rfl, rfl, HB1⟩
 case round =>
  obtain ⟨k, hk, rfl, rfl, rfl, HB⟩ := hrel
  have hv := HV.out.go (w' := wr)
  have hV := HV.out
  have hz : b < wr.heap.size := Nat.lt_of_lt_of_le hlt HB.out.size
  have e0 := (HB.out.cell (p := ⟨b, o, none⟩) hlt).trans hV.c0
  have e1 := (HB.out.cell (p := ⟨b, o + 1, none⟩) hlt).trans hV.d0
  have e2 := (HB.out.cell (p := ⟨b, o + 2, none⟩) hlt).trans hV.c1
  have e3 := (HB.out.cell (p := ⟨b, o + 3, none⟩) hlt).trans hV.d1
  have e4 := (HB.out.cell (p := ⟨b, o + 4, none⟩) hlt).trans hV.c2
  have e5 := (HB.out.cell (p := ⟨b, o + 5, none⟩) hlt).trans hV.d2
  clear hV hv
  have hk3 : k = 0 \/ k = 1 \/ k = 2 := by omega
  have hzz := HB.out.size
  rcases hk3 with rfl | rfl | rfl
  ·rw [if_pos rfl]
   go_wp2_with (go_at_call 118; refine (HH0.out _ (HB.out.alloc hzz _)).mono ?_; rintro e w3 ⟨rfl, hb3⟩; have HB3 := Lib.hid ((HB.out.alloc hzz _).trans (hb3.mono (by simp; omega))); clear hb3)
   exact ⟨⟨1, by omega, rfl, rfl, rfl, HB3⟩, by simp [intOf]⟩
  ·rw [if_neg (by decide)]
   go_wp2_with (go_at_call 118; refine (HH1.out _ (HB.out.alloc hzz _)).mono ?_; rintro e w3 ⟨rfl, hb3⟩; have HB3 := Lib.hid ((HB.out.alloc hzz _).trans (hb3.mono (by simp; omega))); clear hb3)
   exact ⟨⟨2, by omega, rfl, rfl, rfl, HB3⟩, by simp [intOf]⟩
  ·rw [if_neg (by decide)]
   go_wp2_with (go_at_call 118; refine (HH2.out _ (HB.out.alloc hzz _)).mono ?_; rintro e w3 ⟨rfl, hb3⟩; have HB3 := Lib.hid ((HB.out.alloc hzz _).trans (hb3.mono (by simp; omega))); clear hb3)
   go_returns
   exact ⟨rfl, HB3.out⟩
theorem cut_mac (b o n cap : Nat) (v0 v1 v2 : Value) (p0 p1 p2 : Int) (t0 t1 : List Tk) (x2 : Tk) (w : World) (h : L3 w b o v0 v1 v2 p0 p1 p2 t0 t1 [x2]) (hn : n + 3 <= 1000) (hc : n + 3 <= cap) (hcm : cap <= maxLen) (h0 : qA0 t0 = qDn) (h1 : qZ (qA0 t1)) (h2 : qA0 [x2] = qDY) :
  Calls Tryz.prog 119 #[.slice (some ⟨b, o, none⟩) (n + 3) cap] w fun r w' => r = .returned (.tuple #[.agg #[v0, .int .i64 p0, .slice (some ⟨b, o + 2, none⟩) 1 (cap - 1), .slice none 0 0, .int .i64 3], .agg #[.int .i64 0, .int .i64 0]]) /\ Below w.heap.size w w' := by
 have HFD := Lib.hid fun W (hb : Below w.heap.size w W) => find_mac b o n cap v0 v1 v2 p0 p1 p2 t0 t1 [x2] W (h.go hb) hn h0 h1 h2
 have HMO := Lib.hid fun W (hb : Below w.heap.size w W) => more_no v2 p2 x2 W (h.r2.below hb (Nat.le_refl _))
 have HV := Lib.hid h
 obtain ⟨a0, n0, k0, rfl⟩ := h.s0
 obtain ⟨a2, n2, k2, rfl⟩ := h.s2
 have hlt := h.lt
 clear h h0 h1 h2
 go_enter Tryz.func119, Tryz.ntmps119
 go_wp2_with (go_at_call 147; refine (HFD.out _ (by go_grown)).mono ?_; rintro e w1 ⟨rfl, hb1⟩; have hB1 : Below w.heap.size w w1 := Below.trans (by go_grown) (hb1.mono (by go_size)); have x0 : w1.heap[w.heap.size]? = some (.cells #[.slice none 0 0, .int .i64 0, .slice none 0 0, .slice none 0 0, .int .i64 0] 216 (0, 0)) := (by rw [hb1.block _ (by go_size), old2 _ _ (by go_size)]; exact qH _ _ rfl); have x1 : w1.heap[w.heap.size + 1]? = some (.cells #[.int .i64 0, .int .i64 0] 36 (0, 0)) := (by rw [hb1.block _ (by go_size)]; exact qH _ _ (by go_size)); have HB1 := Lib.hid hB1; have X0 := Lib.hid x0; have X1 := Lib.hid x1; have e0 := (hB1.cell (p := ⟨b, o, none⟩) hlt).trans HV.out.c0; have e1 := (hB1.cell (p := ⟨b, o + 1, none⟩) hlt).trans HV.out.d0; have e4 := (hB1.cell (p := ⟨b, o + 4, none⟩) hlt).trans HV.out.c2; have e5 : w1.cell? ⟨b, o + 4 + 1, none⟩ = some (.int .i64 p2) := (hB1.cell (p := ⟨b, o + 5, none⟩) hlt).trans HV.out.d2; have hb1' := Nat.lt_of_lt_of_le hlt hB1.size; clear hb1 hB1 x0 x1)
 refine (HMO.out _ HB1.out).mono ?_
 rintro e w2 ⟨rfl, hb2⟩
 have hB2 : Below w.heap.size w w2 := HB1.out.trans (hb2.mono HB1.out.size)
 have z0 := (hb2.block _ (qC X0.out)).trans X0.out
 have z1 := (hb2.block _ (qC X1.out)).trans X1.out
 replace e0 := (hb2.cell (p := ⟨b, o, none⟩) hb1').trans e0
 replace e1 := (hb2.cell (p := ⟨b, o + 1, none⟩) hb1').trans e1
 have HB2 := Lib.hid hB2
 have Z0 := Lib.hid z0
 have Z1 := Lib.hid z1
 have hz := qC z1
 have hzb : b < w2.heap.size := Nat.lt_of_lt_of_le hb1' hb2.size
 obtain ⟨c, rfl⟩ : ∃ c, cap = c + 1 := ⟨cap - 1, by omega⟩
 have hc0 : c ≠ 0 := by omega
 clear e4 e5 hb1' hb2 hB2 z0 z1 HB1 X0 X1 HMO HFD
 go_wp2_with fail
 go_region
 have hb3 : Below w2.heap.size w2 ((w2.alloc (.cells #[.slice a0 n0 k0, .int .i64 p0, .slice (some ⟨b, o + 2, none⟩) 1 c, .slice none 0 0, .int .i64 3] 216)).drew) := (qE _ _).drew
 have z3 : ((w2.alloc (.cells #[.slice a0 n0 k0, .int .i64 p0, .slice (some ⟨b, o + 2, none⟩) 1 c, .slice none 0 0, .int .i64 3] 216)).drew).heap[w2.heap.size]? = some (.cells #[.slice a0 n0 k0, .int .i64 p0, .slice (some ⟨b, o + 2, none⟩) 1 c, .slice none 0 0, .int .i64 3] 216 (0, 0)) := qH _ _ rfl
 generalize (w2.alloc (.cells #[.slice a0 n0 k0, .int .i64 p0, .slice (some ⟨b, o + 2, none⟩) 1 c, .slice none 0 0, .int .i64 3] 216)).drew = W3 at *
 have z0 := (hb3.block _ (qC Z0.out)).trans Z0.out
 have z1 := (hb3.block _ (qC Z1.out)).trans Z1.out
 have g0 : W3.cell? ⟨w.heap.size, 0, none⟩ = some (.slice none 0 0) := qB z0 rfl
 have g1 : W3.cell? ⟨w.heap.size, 1, none⟩ = some (.int .i64 0) := qB z0 rfl
 have g2 : W3.cell? ⟨w.heap.size, 2, none⟩ = some (.slice none 0 0) := qB z0 rfl
 have g3 : W3.cell? ⟨w.heap.size, 3, none⟩ = some (.slice none 0 0) := qB z0 rfl
 have g4 : W3.cell? ⟨w.heap.size, 4, none⟩ = some (.int .i64 0) := qB z0 rfl
 have f0 : W3.frozen? ⟨w.heap.size, 0, none⟩ = false := qD z0
 have f1 : W3.frozen? ⟨w.heap.size, 1, none⟩ = false := qD z0
 have f2 : W3.frozen? ⟨w.heap.size, 2, none⟩ = false := qD z0
 have f3 : W3.frozen? ⟨w.heap.size, 3, none⟩ = false := qD z0
 have f4 : W3.frozen? ⟨w.heap.size, 4, none⟩ = false := qD z0
 have q0 : W3.cell? ⟨w2.heap.size, 0, none⟩ = some (.slice a0 n0 k0) := qB z3 rfl
 have q1 : W3.cell? ⟨w2.heap.size, 1, none⟩ = some (.int .i64 p0) := qB z3 rfl
 have q2 : W3.cell? ⟨w2.heap.size, 2, none⟩ = some (.slice (some ⟨b, o + 2, none⟩) 1 c) := qB z3 rfl
 have q3 : W3.cell? ⟨w2.heap.size, 3, none⟩ = some (.slice none 0 0) := qB z3 rfl
 have q4 : W3.cell? ⟨w2.heap.size, 4, none⟩ = some (.int .i64 3) := qB z3 rfl
 obtain ⟨⟨k0', k1'⟩, j0, j1⟩ := qo z1
 have hzw : w.heap.size < W3.heap.size := qC z0
 have hzw1 : w.heap.size + 1 < W3.heap.size := qC z1
 have HB3 := Lib.hid (HB2.out.trans (hb3.mono HB2.out.size))
 clear hb3 z0 z1 z3 Z0 Z1 HB2 e0 e1 HV
 go_wp2_with fail
 refine bodyPost_ret (v := .tuple #[.agg #[.slice a0 n0 k0, .int .i64 p0, .slice (some ⟨b, o + 2, none⟩) 1 c, .slice none 0 0, .int .i64 3], .agg #[.int .i64 0, .int .i64 0]]) (by simp [results, Tryz.results119, go_sem, g0, g1, g2, g3, g4, k0', k1']) rfl ⟨by simp, ?_⟩
 exact ((((((HB3.out.setCell (Nat.le_refl _) _).setCell (Nat.le_refl _) _).setCell (Nat.le_refl _) _).setCell (Nat.le_refl _) _).setCell (Nat.le_refl _) _).setCell (Nat.le_succ _) _).setCell (Nat.le_succ _) _
end Go.Proofs.YtgjmbjahgcndnaaGreatDoor
