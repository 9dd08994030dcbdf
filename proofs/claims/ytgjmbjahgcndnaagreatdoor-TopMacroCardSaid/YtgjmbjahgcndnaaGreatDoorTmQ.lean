import Derived.Test.YtgjmbjahgcndnaaGreatDoorPut46
import Derived.Test.YtgjmbjahgcndnaaGreatDoorPut40
namespace Go.Proofs.YtgjmbjahgcndnaaGreatDoor
open Go.RowKit
theorem qIt (v : Value) (x : Tk) (q : Nat) (a : Int) (h0 : -100 <= a) (h1 : a <= 100) (w : World) (hL : Xp.qAT w) (h : qY w v [⟨x, some ⟨q, 0, none⟩⟩]) (hq : InP w q (numK a)) :
  Calls Tryz.prog 193 #[v, .slice none 0 0] w fun r w' => r = .returned (.tuple #[.agg #[.string ⟨#[]⟩, .int .i64 a], .bool true, .int .i64 0]) /\ Below w.heap.size w w' := by
 obtain ⟨ad, cap, rfl, hc, hm, h⟩ := h
 obtain ⟨b, o, rfl, hb, hcell⟩ := h (by simp)
 have c := hcell 0 (by simp)
 simp only [Nat.zero_mul, Nat.add_zero, List.getElem_cons_zero] at c
 obtain ⟨c0, c1, c2, c3⟩ := c
 obtain ⟨cap, rfl⟩ : ∃ k, cap = k + 1 := ⟨cap - 1, by simp at hc; omega⟩
 have HE := Lib.hid fun W (hb' : Below w.heap.size w W) => qEO b o cap q x.k x.n x.t a h0 h1 W (KL.below hL hb') (Nat.lt_of_lt_of_le hb hb'.size) hm (by rw [hb'.cell (by exact hb)]; exact c0) (by rw [hb'.cell (by exact hb)]; exact c1) (by rw [hb'.cell (by exact hb)]; exact c2) (by rw [hb'.cell (by exact hb)]; exact c3) (hq.go hb')
 clear hL hcell h c0 c1 c2 c3 hq h0 h1
 simp only [List.length_cons, List.length_nil]
 go_enter Tryz.func193, Tryz.ntmps193
 go_wp2_with fail
 refine (HE.out _ (qE _ _)).mono ?_
 rintro e w1 ⟨⟨g, q, rfl, hp1⟩, hb1⟩
 obtain ⟨hB1, hz1, xr⟩ := qS hb1
 have HB1 := Lib.hid hB1
 have XR := Lib.hid xr
 have HF := Lib.hid fun W (hb : Below w1.heap.size w1 W) => qDt g q _ ⟨#[]⟩ a 0 W (hp1.go hb)
 have HP1 := Lib.hid hp1
 clear hb1 hB1 xr hp1 HE
 go_wp2_with (go_at_call 223; refine (HF.out _ (Below.refl _ _)).mono ?_; rintro e w2 ⟨rfl, hb2⟩; have HB2 := Lib.hid (HB1.out.trans (hb2.mono (by omega))); have HP2 := Lib.hid (HP1.out.go hb2); have xr2 := (hb2.block _ hz1).trans XR.out; obtain ⟨⟨u0, u1⟩, f0, f1⟩ := qo xr2; have hz2 := qC xr2; clear hb2 xr2)
 have HE6 : Hid (∀ W, Below w2.heap.size w2 W -> Calls Tryz.prog 225 #[.pointer (some ⟨g, 0, none⟩)] W fun r w' => r = .returned (.int .i64 0) /\ w' = W) := fun W hb => qE4 g 0 W (qB (HP2.out.go hb).pt rfl)
 clear HP1 HF XR
 go_region_with (go_at_call 225; refine (HE6.out _ (by go_grown)).mono ?_; rintro e w3 ⟨rfl, rfl⟩)
 all_goals
  go_wp2
  refine bodyPost_ret (v := .tuple #[.agg #[.string ⟨#[]⟩, .int .i64 a], .bool true, .int .i64 0]) (by simp [results, Tryz.results193, go_sem, World.cell?_alloc_lt, hz2, u0, u1]) rfl ⟨rfl, ?_⟩
  have hb := HB2.out
  go_grown
theorem qKD (gu : Nat) (kd : ByteArray) (v : Value) (x : Tk) (q : Nat) (a : Int) (h0 : -100 <= a) (h1 : a <= 100) (w : World) (hL : Xp.qAT w) (h : qY w v [⟨x, some ⟨q, 0, none⟩⟩]) (hq : InP w q (numK a)) (c0 : w.cell? ⟨gu, 0, none⟩ = some (.slice none 0 0)) :
  Calls Tryz.prog 164 #[.pointer (some ⟨gu, 0, none⟩), .string kd, v] w fun r w' => r = .returned (.tuple #[opV kd 0 ⟨#[]⟩ a, .int .i64 0]) /\ Below w.heap.size w w' := by
 have HM := Lib.hid fun W (hb : Below w.heap.size w W) => qIt v x q a h0 h1 W (KL.below hL hb) (h.below hb (Nat.le_refl _)) (hq.go hb)
 have hg : gu < w.heap.size := World.block_lt_of_cell? w _ c0
 obtain ⟨ad, cap, rfl, _⟩ := h
 clear hL hq h0 h1
 simp only [List.length_cons, List.length_nil] at *
 unfold opV
 go_enter Tryz.func164, Tryz.ntmps164
 go_wp2_with fail
 refine (HM.out _ (qE _ _)).mono ?_
 rintro e w1 ⟨rfl, hb1⟩
 obtain ⟨hB1, hz1, xr⟩ := qS hb1
 obtain ⟨⟨⟨u0, u1⟩, u2, u3⟩, ⟨f0, f1⟩, f2, f3⟩ := qAn xr
 have HB1 := Lib.hid hB1
 have XR := Lib.hid xr
 clear hb1 hB1 xr HM
 go_wp2_with fail
 exact bodyPost_ret (v := .tuple #[.agg #[.string kd, .int .i64 0, .string ⟨#[]⟩, .int .i64 a], .int .i64 0]) (by simp [results, Tryz.results164, go_sem, World.cell?_alloc_lt, hz1, u0, u1, u2, u3]) rfl ⟨rfl, ((((HB1.out.setCell (Nat.le_refl _) _).setCell (Nat.le_refl _) _).setCell (Nat.le_refl _) _).setCell (Nat.le_refl _) _).alloc (by simp; omega) _⟩
theorem qHB (gu : Nat) (v : Value) (sn : Int) (x : Tk) (q : Nat) (a : Int) (h0 : -100 <= a) (h1 : a <= 100) (w : World) (hL : Xp.qAT w) (h : qY w v [pc ⟨3, sn, ⟨#[35]⟩⟩, ⟨x, some ⟨q, 0, none⟩⟩]) (hq : InP w q (numK a)) (c0 : w.cell? ⟨gu, 0, none⟩ = some (.slice none 0 0)) :
  Calls Tryz.prog 131 #[.pointer (some ⟨gu, 0, none⟩), v] w fun r w' => r = .returned (.tuple #[opV ⟨#[35]⟩ 0 ⟨#[]⟩ a, .int .i64 0]) /\ Below w.heap.size w w' := by
 have hg : gu < w.heap.size := World.block_lt_of_cell? w _ c0
 have HN := Lib.hid fun W (hb : Below w.heap.size w W) => xnext v ⟨3, sn, ⟨#[35]⟩⟩ [⟨x, some ⟨q, 0, none⟩⟩] W W (h.below hb (Nat.le_refl _)) (Below.refl _ _)
 have HE0 := Lib.hid fun v' W (hb : Below w.heap.size w W) (hv : qY W v' [⟨x, some ⟨q, 0, none⟩⟩]) => qKD gu ⟨#[35]⟩ v' x q a h0 h1 W (KL.below hL hb) hv (hq.go hb) (by rw [hb.cell (by exact hg)]; exact c0)
 have HST : Hid (∀ W, Calls Tryz.prog 125 #[tokV 3 sn ⟨#[35]⟩, .string ⟨#[35]⟩] W fun r w' => r = .returned (.bool true) /\ Below W.heap.size W w') := fun W => by
  have := qBq 3 sn ⟨#[35]⟩ ⟨#[35]⟩ W
  rwa [show ((3 : Int) == 3 && (⟨#[35]⟩ : ByteArray).toList == (⟨#[35]⟩ : ByteArray).toList) = true by simp] at this
 obtain ⟨ad, cap, rfl, _⟩ := h
 clear hL hq h0 h1
 unfold opV at *
 unfold Tk.V tokV at *
 simp only [List.length_cons, List.length_nil] at *
 go_enter Tryz.func131, Tryz.ntmps131
 go_wp2_with fail
 refine (HN.out _ (qE _ _)).mono ?_
 rintro e w1 ⟨⟨v', rfl, hv⟩, hb1⟩
 obtain ⟨ad', cap', rfl, _⟩ := id hv
 obtain ⟨hB1, hz1, xr⟩ := qS hb1
 simp only [List.length_cons, List.length_nil] at *
 have HPV := Lib.hid hv
 have HBV := Lib.hid hb1
 clear hb1 hv
 go_wp2_with fail
 refine (HST.out _).mono ?_
 rintro e w2 ⟨rfl, hb2⟩
 obtain ⟨hB2, hz2, xt⟩ := qS hb2
 have t0 : w2.cell? ⟨w1.heap.size, 0, none⟩ = some (.int .i64 3) := qB xt rfl
 have t1 : w2.cell? ⟨w1.heap.size, 1, none⟩ = some (.int .i64 sn) := qB xt rfl
 have t2 : w2.cell? ⟨w1.heap.size, 2, none⟩ = some (.string ⟨#[35]⟩) := qB xt rfl
 replace xr := (hB2.block _ (by omega)).trans xr
 have HB := Lib.hid (hB1.trans (hB2.mono (by omega)))
 replace HBV := Lib.hid (HBV.out.trans (hB2.mono HBV.out.size))
 clear hb2 hB2 hB1
 have XR := Lib.hid xr
 clear xr xt
 go_wp2_with fail
 refine (HE0.out _ _ HB.out (HPV.out.below HBV.out (Nat.le_refl _))).mono ?_
 rintro e w6 ⟨rfl, hb6⟩
 obtain ⟨⟨⟨u0, u1⟩, u2, u3⟩, ⟨f0, f1⟩, f2, f3⟩ := qAn ((hb6.block _ (by omega)).trans XR.out)
 have hz6 : w.heap.size < w6.heap.size := Nat.lt_of_lt_of_le (by omega) hb6.size
 replace HB := Lib.hid (HB.out.trans (hb6.mono (by omega)))
 clear hb6
 go_wp2_with fail
 exact bodyPost_ret (v := .tuple #[.agg #[.string ⟨#[35]⟩, .int .i64 0, .string ⟨#[]⟩, .int .i64 a], .int .i64 0]) (by simp [results, Tryz.results131, go_sem, u0, u1, u2, u3]) rfl ⟨rfl, (((HB.out.setCell (Nat.le_refl _) _).setCell (Nat.le_refl _) _).setCell (Nat.le_refl _) _).setCell (Nat.le_refl _) _⟩
end Go.Proofs.YtgjmbjahgcndnaaGreatDoor
