import Derived.Test.YtfmljailbebfgaaGreatDoorPut37
set_option maxHeartbeats 2000000
namespace Go.Proofs.YtfmljailbebfgaaGreatDoor
open Go.RowKit
theorem qGt : ∀ (ps : List (Sc.Ln × Value)) (i : Nat) (h : i < ps.length), (Sc.lcells ps)[i * 2]? = some (.int .i64 ps[i].1.pos) /\ (Sc.lcells ps)[i * 2 + 1]? = some ps[i].2
 | [], i, h => by simp at h
 | p :: r, 0, h => by simp [Sc.lcells]
 | p :: r, i + 1, h => by
   have ih := qGt r i (by simpa using h)
   have e : Sc.lcells (p :: r) = [.int .i64 p.1.pos, p.2] ++ Sc.lcells r := by simp [Sc.lcells]
   rw [e, show (i + 1) * 2 = 2 + i * 2 by omega]
   simp only [List.getElem_cons_succ]
   refine ⟨?_, ?_⟩
   ·rw [List.getElem?_append_right (by simp)]; simpa using ih.1
   ·rw [List.getElem?_append_right (by simp; omega)]; simpa [show 2 + i * 2 + 1 - 2 = i * 2 + 1 by omega] using ih.2
theorem lin_of {w : World} {base : Nat} {v : Value} {ps : List (Sc.Ln × Value)} (h : Sc.LOwn w base v ps) : LIn w v (ps.map (·.1)) := by
 rcases id h.row.2 with ⟨hv, h0⟩ | ⟨g, cap, cur, rfl, hg, hgg, hle, hm, rest⟩
 ·exact ⟨none, 0, by rw [hv]; simp [h0], fun h => by simp at h; omega⟩
 ·refine ⟨some ⟨g, 0, none⟩, cap, by simp, fun _ => ⟨g, 0, rfl, qC hgg, fun i hi => ?_⟩⟩
  have hi' : i < ps.length := by simpa using hi
  obtain ⟨a, b⟩ := qGt ps i hi'
  have hadd : ∀ j, (⟨g, 0, none⟩ : Addr).add j = ⟨g, 0 + j, none⟩ := fun j => by unfold Addr.add; split <;> simp_all
  have k0 := h.row.cells rfl _ _ a
  have k1 := h.row.cells rfl _ _ b
  rw [hadd] at k0 k1
  simp only [List.getElem_map]
  exact ⟨ps[i].2, k0, k1, Sc.qDF (h.toks ps[i] (List.getElem_mem _))⟩
theorem qJw (gu : Nat) (v : Value) (sn : Int) (x : Tk) (w : World) (hG : Sc.Glob w) (h : qJ w v [⟨3, sn, ⟨#[64]⟩⟩, x]) (hx : x.k = 1) (hr : 0 <= regU 1 x.t.data.toList) :
  Calls Tryz.prog 133 #[.pointer (some ⟨gu, 0, none⟩), v] w fun r w' => r = .returned (.tuple #[opV ⟨#[64]⟩ (regU 1 x.t.data.toList) ⟨#[]⟩ 0, .int .i64 0]) /\ Below w.heap.size w w' := by
 have HN := Lib.hid fun W (hb : Below w.heap.size w W) => qBC v [⟨3, sn, ⟨#[64]⟩⟩, x] W (h.below hb (Nat.le_refl _))
 have HE0 := Lib.hid fun v' W (hb : Below w.heap.size w W) (hv : qJ W v' [x]) => qH9 ⟨#[64]⟩ v' x W (hG.below hb hG.sz) hv hx hr
 have HS1 : Hid (∀ W, Calls Tryz.prog 127 #[tokV 3 sn ⟨#[64]⟩, .string ⟨#[35]⟩] W fun r w' => r = .returned (.bool false) /\ Below W.heap.size W w') := fun W => by
  have := qAh 3 sn ⟨#[64]⟩ ⟨#[35]⟩ W
  rwa [show ((3 : Int) == 3 && (⟨#[64]⟩ : ByteArray).toList == (⟨#[35]⟩ : ByteArray).toList) = false by simp [ByteArray.toList_eq]] at this
 have HS2 : Hid (∀ W, Calls Tryz.prog 127 #[tokV 3 sn ⟨#[64]⟩, .string ⟨#[61]⟩] W fun r w' => r = .returned (.bool false) /\ Below W.heap.size W w') := fun W => by
  have := qAh 3 sn ⟨#[64]⟩ ⟨#[61]⟩ W
  rwa [show ((3 : Int) == 3 && (⟨#[64]⟩ : ByteArray).toList == (⟨#[61]⟩ : ByteArray).toList) = false by simp [ByteArray.toList_eq]] at this
 have HS3 : Hid (∀ W, Calls Tryz.prog 127 #[tokV 3 sn ⟨#[64]⟩, .string ⟨#[64]⟩] W fun r w' => r = .returned (.bool true) /\ Below W.heap.size W w') := fun W => by
  have := qAh 3 sn ⟨#[64]⟩ ⟨#[64]⟩ W
  rwa [show ((3 : Int) == 3 && (⟨#[64]⟩ : ByteArray).toList == (⟨#[64]⟩ : ByteArray).toList) = true by simp] at this
 obtain ⟨ad, cap, rfl, _⟩ := h
 clear hG
 generalize regU 1 x.t.data.toList = rg at *
 unfold opV at *
 unfold Tk.V tokV qA3 at *
 simp only [List.length_cons, List.length_nil] at *
 go_enter Tryz.func133, Tryz.ntmps133
 go_wp2_with fail
 refine (HN.out _ (qD _ _)).mono ?_
 rintro e w1 ⟨⟨v', rfl, hv⟩, hb1⟩
 obtain ⟨ad', cap', rfl, _⟩ := id hv
 obtain ⟨hB1, hz1, xr⟩ := qd hb1
 simp only [List.tail_cons, List.length_singleton] at *
 have HPV := Lib.hid hv
 have HBV := Lib.hid hb1
 clear hb1 hv
 go_wp2_with fail
 refine (HS1.out _).mono ?_
 rintro e w2 ⟨rfl, hb2⟩
 obtain ⟨hB2, hz2, xt⟩ := qd hb2
 replace xr := (hB2.block _ (by omega)).trans xr
 have HB := Lib.hid (hB1.trans (hB2.mono (by omega)))
 replace HBV := Lib.hid (HBV.out.trans (hB2.mono HBV.out.size))
 have t0 : w2.cell? ⟨w1.heap.size, 0, none⟩ = some (.int .i64 3) := qB xt rfl
 have t1 : w2.cell? ⟨w1.heap.size, 1, none⟩ = some (.int .i64 sn) := qB xt rfl
 have t2 : w2.cell? ⟨w1.heap.size, 2, none⟩ = some (.string ⟨#[64]⟩) := qB xt rfl
 have XR := Lib.hid xr
 have XT := Lib.hid xt
 clear hb2 hB2 hB1 xr xt HS1
 go_wp2_with fail
 refine (HS2.out _).mono ?_
 rintro e w3 ⟨rfl, hb3⟩
 have xt3 := (hb3.block _ (qC XT.out)).trans XT.out
 replace XR := Lib.hid ((hb3.block _ (qC XR.out)).trans XR.out)
 replace HB := Lib.hid (HB.out.trans (hb3.mono HB.out.size))
 replace HBV := Lib.hid (HBV.out.trans (hb3.mono HBV.out.size))
 replace t0 : w3.cell? ⟨w1.heap.size, 0, none⟩ = some (.int .i64 3) := qB xt3 rfl
 replace t1 : w3.cell? ⟨w1.heap.size, 1, none⟩ = some (.int .i64 sn) := qB xt3 rfl
 replace t2 : w3.cell? ⟨w1.heap.size, 2, none⟩ = some (.string ⟨#[64]⟩) := qB xt3 rfl
 have hz3 := qC xt3
 replace XT := Lib.hid xt3
 clear hb3 xt3 HS2
 go_wp2_with fail
 refine (HS3.out _).mono ?_
 rintro e w4 ⟨rfl, hb4⟩
 have xt4 := (hb4.block _ (qC XT.out)).trans XT.out
 replace XR := Lib.hid ((hb4.block _ (qC XR.out)).trans XR.out)
 replace HB := Lib.hid (HB.out.trans (hb4.mono HB.out.size))
 replace HBV := Lib.hid (HBV.out.trans (hb4.mono HBV.out.size))
 replace t0 : w4.cell? ⟨w1.heap.size, 0, none⟩ = some (.int .i64 3) := qB xt4 rfl
 replace t1 : w4.cell? ⟨w1.heap.size, 1, none⟩ = some (.int .i64 sn) := qB xt4 rfl
 replace t2 : w4.cell? ⟨w1.heap.size, 2, none⟩ = some (.string ⟨#[64]⟩) := qB xt4 rfl
 have hz4 := qC xt4
 clear hb4 xt4 HS3 XT
 go_wp2_with fail
 refine (HE0.out _ _ HB.out (HPV.out.below HBV.out (Nat.le_refl _))).mono ?_
 rintro e w6 ⟨rfl, hb6⟩
 obtain ⟨⟨⟨u0, u1⟩, u2, u3⟩, ⟨f0, f1⟩, f2, f3⟩ := qAo ((hb6.block _ (qC XR.out)).trans XR.out)
 have hz6 : w.heap.size < w6.heap.size := Nat.lt_of_lt_of_le (qC XR.out) hb6.size
 replace HB := Lib.hid (HB.out.trans (hb6.mono HB.out.size))
 clear hb6
 go_wp2_with fail
 exact bodyPost_ret (v := .tuple #[.agg #[.string ⟨#[64]⟩, .int .i64 rg, .string ⟨#[]⟩, .int .i64 0], .int .i64 0]) (by simp [results, Tryz.results133, go_sem, u0, u1, u2, u3]) rfl ⟨rfl, (((HB.out.setCell (Nat.le_refl _) _).setCell (Nat.le_refl _) _).setCell (Nat.le_refl _) _).setCell (Nat.le_refl _) _⟩
end Go.Proofs.YtfmljailbebfgaaGreatDoor
