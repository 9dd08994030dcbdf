import Derived.Test.YtgjmbjahgcndnaaGreatDoorPut46
import Derived.Test.YtgjmbjahgcndnaaGreatDoorPut34
set_option maxHeartbeats 16000000
set_option maxRecDepth 100000
namespace Go.Proofs.YtgjmbjahgcndnaaGreatDoor
open Go.RowKit
theorem qJR (b o cap g c q : Nat) (p : ByteArray) (w : World) (h4 : w.cell? ⟨g, 0, none⟩ = some (.pointer (some ⟨q, 0, none⟩))) (h6 : w.cell? ⟨b, o, none⟩ = some (.string p)) :
  Calls Tryz.prog 217 #[.slice (some ⟨b, o, none⟩) 1 cap, .slice (some ⟨g, 0, none⟩) 1 c] w fun r w' => (∃ sb, r = .returned (.func (.func 239) #[] #[.pointer (some ⟨sb, 0, none⟩)]) /\ Fil w' sb p q) /\ Below w.heap.size w w' := by
 have hmm : ∀ w, (Instr.makeMap 344 none).run Tryz.prog w = .ok (.map (some w.heap.size)) (w.alloc (.map #[] 0)) := fun w => rfl
 have zb : b < w.heap.size := World.block_lt_of_cell? w _ h6
 have zg : g < w.heap.size := World.block_lt_of_cell? w _ h4
 have H4 := Lib.hid h4
 have H6 := Lib.hid h6
 clear h4 h6
 go_enter Tryz.func217, Tryz.ntmps217
 go_wp2_with fail
 go_returns
 refine ⟨⟨_, rfl, w.heap.size + 1 + 1 + 1 + 1 + 1 + 1, w.heap.size + 1 + 1, w.heap.size + 1, w.heap.size, b, o, cap, g, c, 343, ?_, ?_, ?_, ?_, ?_, ?_⟩, by go_grown⟩
 ·exact qH _ _ (by go_size)
 ·rw [old2 _ _ (by go_size), old2 _ _ (by go_size), old2 _ _ (by go_size), old2 _ _ (by go_size), old2 _ _ (by go_size)]
  exact qH _ _ (by go_size)
 ·rw [old2 _ _ (by go_size), old2 _ _ (by go_size), old2 _ _ (by go_size), old2 _ _ (by go_size), old2 _ _ (by go_size), old2 _ _ (by go_size)]
  exact qH _ _ (by go_size)
 ·rw [(show Below w.heap.size w _ by go_grown).cell (by exact zg)]
  exact H4.out
 ·rw [old2 _ _ (by go_size), old2 _ _ (by go_size), old2 _ _ (by go_size), old2 _ _ (by go_size), old2 _ _ (by go_size), old2 _ _ (by go_size), old2 _ _ (by go_size)]
  exact qH _ _ rfl
 ·rw [(show Below w.heap.size w _ by go_grown).cell (by exact zb)]
  exact H6.out
theorem infoPI : (Tryz.prog.info? 178).map (fun i => (i.zero, i.size, i.bytes)) = some (some (.pointer none), 1, 8) := by kernel_rfl
theorem qL9 {w : World} {base n size g : Nat} {e : TypeId} {c m : Nat} {xs : List Value} (h : w.ownsRow base e size (.slice (some ⟨g, 0, none⟩) m c) n xs) : g < w.heap.size := by
 rcases h.2 with ⟨h0, _⟩ | ⟨g', cap, cur, hv, _, hg, _⟩
 ·cases h0
 ·injection hv with e1 _ _
  injection e1 with e1
  injection e1 with e1 _ _
  subst e1
  exact qC hg
theorem InT.go {W W' : World} {B q : Nat} {ts : List Tk} (h : InT W B q ts) (hb : Below W.heap.size W W') : InT W' B q ts := by
 obtain ⟨c, gl, v, wv, h1, h2, h3⟩ := h.ex
 exact ⟨c, gl, v, wv, (hb.block _ (qC h1)).trans h1, (hb.block _ (qC h2)).trans h2, ownU h3 hb⟩
structure Mcr (W : World) (pb lb : Nat) (p : ByteArray) (t1 : List Tk) (lg lo : Nat) : Prop where
 ex : ∃ b o cap lc v1 p1, W.heap[pb]? = some (.cells #[.slice (some ⟨b, o, none⟩) 1 cap] 29 (0, 0)) /\ (∃ cs, W.heap[b]? = some (.cells cs 9 (0, 0)) /\ cs[o]? = some (.string p)) /\ W.heap[lb]? = some (.cells #[.slice (some ⟨lg, lo, none⟩) 1 lc] 99 (0, 0)) /\ W.cell? ⟨lg, lo, none⟩ = some v1 /\ W.cell? ⟨lg, lo + 1, none⟩ = some (.int .i64 p1) /\ qI W v1 t1
theorem Mcr.go {W W' : World} {pb lb lg lo : Nat} {p : ByteArray} {t1 : List Tk} (h : Mcr W pb lb p t1 lg lo) (hb : Below W.heap.size W W') : Mcr W' pb lb p t1 lg lo := by
 obtain ⟨b, o, cap, lc, v1, p1, h1, h2, h3, h4, h5, h6⟩ := h
 obtain ⟨cs, h2, h2'⟩ := h2
 exact ⟨b, o, cap, lc, v1, p1, (hb.block _ (qC h1)).trans h1, ⟨cs, (hb.block _ (qC h2)).trans h2, h2'⟩, (hb.block _ (qC h3)).trans h3, (hb.cell (World.block_lt_of_cell? W _ h4)).trans h4, (hb.cell (World.block_lt_of_cell? W _ h5)).trans h5, h6.below hb (Nat.le_refl _)⟩
theorem made_one (pb lb lg lo : Nat) (nm : ByteArray) (t1 : List Tk) (v : Value) (p : Int) (x : Tk) (ts : List Tk) (w : World) (h : Mcr w pb lb nm t1 lg lo) (hl : t1.length = 5) (hv : qI w v (x :: ts)) (h0 : 0 < ts.length) (hn : ts.length <= 64) (hpc : qAu ts = [ts]) :
  Calls Tryz.prog 216 #[.agg #[v, .int .i64 p], .pointer (some ⟨pb, 0, none⟩), .pointer (some ⟨lb, 0, none⟩)] w fun r w' => (∃ g c v' q, r = .returned (.tuple #[.slice (some ⟨g, 0, none⟩) 1 c, .int .i64 0]) /\ w'.ownsRow w.heap.size 145 2 (.slice (some ⟨g, 0, none⟩) 1 c) 1 [v', .int .i64 p] /\ (∃ base, w'.ownsRow base 180 4 v' 5 (pcCs (t1.map (toN nm q)))) /\ ∃ base, InT w' base q ts) /\ Below w.heap.size w w' := by
 have HM := Lib.hid h
 have HBH := Lib.hid fun W (hb : Below w.heap.size w W) => qBn v (x :: ts) W (hv.below hb (Nat.le_refl _))
 have HSP := Lib.hid fun v' W (hv : qI W v' ts) => qC9 v' ts W hv (by omega)
 have HEN := Lib.hid fun v' W (hv : qI W v' ts) => qGb v' ts W hv h0 hn
 obtain ⟨ad, cap, rfl, _⟩ := hv
 simp only [List.length_cons, List.tail_cons] at *
 clear h
 go_enter Tryz.func216, Tryz.ntmps216
 go_wp2_with fail
 refine (HBH.out _ (qE _ _)).mono ?_
 rintro e w1 ⟨⟨v1, rfl, hv1⟩, hb1⟩
 obtain ⟨hB1, hz1, xr⟩ := qS hb1
 obtain ⟨ad1, cap1, rfl, _⟩ := id hv1
 have HV1 := Lib.hid (hv1.below hb1 (Nat.le_refl _))
 have HB1 := Lib.hid hB1
 have XR := Lib.hid xr
 clear hb1 hB1 xr hv1 HBH
 go_wp2_with fail
 refine (HSP.out _ _ HV1.out).mono ?_
 rintro e w2 ⟨⟨ov, vs, rfl, hT⟩, hb2⟩
 obtain ⟨hrow, hvl, hrd⟩ := hT
 rw [hpc] at hvl hrd
 obtain ⟨u, rfl⟩ : ∃ u, vs = [u] := by
  match vs, hvl with
  | [u], _ => exact ⟨u, rfl⟩
 have hu := hrd 0 (by simp) (by simp)
 simp only [List.getElem_cons_zero] at hu
 obtain ⟨g1, c1, rfl, hg1, _⟩ := qDN hrow
 have hu2 := hu.below hb2 (Nat.le_refl _)
 obtain ⟨ua, uc, rfl, _⟩ := id hu2
 have HU := Lib.hid hu2
 have k0 : w2.cell? ⟨g1, 0, none⟩ = some (.slice ua ts.length uc) := by simpa [Addr.add] using hrow.cells rfl 0 _ rfl
 have HB2 : Hid (Below w.heap.size w w2) := HB1.out.trans (hb2.mono HB1.out.size)
 have XR2 := Lib.hid ((hb2.block _ hz1).trans XR.out)
 have hgz := qL9 hrow
 clear hrow hvl hrd hu hu2 hb2 HSP HV1 HB1 XR
 go_wp2_with fail
 refine wp_loop_rounds 2 ?_
 rw [rounds_succ]
 go_wp2_with (first
  | (go_at_call 127; refine (HEN.out _ _ HU.out).mono ?_; rintro e w3 ⟨⟨q, rfl, hq, hin⟩, hb3⟩; have HIN := Lib.hid hin; have HB3 := Lib.hid hb3; clear hin hb3)
  | (at_builtin; obtain ⟨v4, w4, happ, ho4, hgr4⟩ := app1 316 178 _ 1 8 Tryz.underlying316 infoPI rfl (by decide) (by decide) (w := w3.alloc (.cells #[.pointer (some ⟨q, 0, none⟩)] 178)) (World.ownsRow_nil _ w3.heap.size _ _) (by simp) [.pointer (some ⟨q, 0, none⟩)] rfl w3.heap.size (qH _ _ rfl) (by intro u hu; simp at hu; subst hu; rfl) (by decide); obtain ⟨g4, c4, rfl, hg4, _⟩ := qDN ho4; refine qQ rfl _ _ _ _ rfl _ _ rfl rfl happ ?_)
  | fail)
 rw [rounds_succ]
 have h4 : w4.cell? ⟨g4, 0, none⟩ = some (.pointer (some ⟨q, 0, none⟩)) := by simpa [Addr.add] using ho4.cells rfl 0 _ rfl
 have HB34 : Hid (Below w3.heap.size w3 w4) := ((Below.refl w3.heap.size w3).alloc (Nat.le_refl _) _).grown hgr4 (by simp) (fun j hj => by cases hj)
 have HB4 : Hid (Below w.heap.size w w4) := HB2.out.trans ((HB3.out.trans (HB34.out.mono HB3.out.size)).mono HB2.out.size)
 have HIN4 := Lib.hid (InT.go HIN.out HB34.out)
 have XR4 := Lib.hid (((HB3.out.trans (HB34.out.mono HB3.out.size)).block _ (qC XR2.out)).trans XR2.out)
 obtain ⟨b, o, bc, lc, v1, p1, m1, m2, m3, m4, m5, m6⟩ := HM.out.go HB4.out
 obtain ⟨mcs, m2, m2'⟩ := m2
 replace m2 := qB m2 m2'
 have e1 : w4.cell? ⟨pb, 0, none⟩ = some (.slice (some ⟨b, o, none⟩) 1 bc) := qB m1 rfl
 have HFI := Lib.hid (qJR b o bc g4 c4 q nm w4 h4 m2)
 have M3 := Lib.hid m3
 have M4 := Lib.hid m4
 have M5 := Lib.hid m5
 have M6 := Lib.hid m6
 have zlg : lg < w4.heap.size := World.block_lt_of_cell? w4 _ m4
 clear ho4 hgr4 happ k0 m1 m2 m3 m4 m5 m6 HIN HB3 HB2 XR2 HM HU
 go_wp2_with (first
  | (go_at_call 217; refine HFI.out.mono ?_; rintro e w5 ⟨⟨sb, rfl, hf5⟩, hb5⟩; have HB5 := Lib.hid hb5; have HF5 := Lib.hid hf5; have c3 : w5.cell? ⟨lb, 0, none⟩ = some (.slice (some ⟨lg, lo, none⟩) 1 lc) := qB ((hb5.block _ (qC M3.out)).trans M3.out) rfl; have c4' : w5.cell? ⟨lg, lo, none⟩ = some v1 := (hb5.cell (by exact zlg)).trans M4.out; have c5' : w5.cell? ⟨lg, lo + 1, none⟩ = some (.int .i64 p1) := (hb5.cell (by exact zlg)).trans M5.out; have zlg5 : lg < w5.heap.size := Nat.lt_of_lt_of_le zlg hb5.size; clear hb5 hf5)
  | fail)
 refine wp_loop_rounds 2 ?_
 rw [rounds_succ]
 obtain ⟨va, vn, vc, rfl⟩ := M6.out.shape
 go_wp2_with fail
 refine (qLe sb q nm _ t1 _ (HF5.out.go (qE _ _)) (M6.out.below (HB5.out.trans ((qE _ _).mono HB5.out.size)) (Nat.le_refl _)) hl).mono ?_
 rintro e w6 ⟨⟨v6, rfl, hr6⟩, hb6⟩
 obtain ⟨la6, lc6, rfl⟩ := qG hr6
 have HB56 : Hid (Below w5.heap.size w5 w6) := Below.trans (by go_grown) (hb6.mono (by go_size))
 have HB46 := Lib.hid (HB5.out.trans (HB56.out.mono HB5.out.size))
 have xr6 := (HB46.out.block _ (qC XR4.out)).trans XR4.out
 have y1 : w6.cell? ⟨w.heap.size, 1, none⟩ = some (.int .i64 p) := qB xr6 rfl
 have hz6 := qC xr6
 have HR6 := Lib.hid hr6
 clear hr6 hb6 xr6 c3 c4' c5'
 go_wp2_with (first
  | (at_builtin; obtain ⟨v7, w7, happ, ho7, hgr7⟩ := app1 99 145 _ 2 32 Tryz.underlying99 qIB rfl (by decide) (by decide) (w := w6.alloc (.cells #[.slice la6 5 lc6, .int .i64 p] 145)) (World.ownsRow_nil _ w6.heap.size _ _) (by simp) [.slice la6 5 lc6, .int .i64 p] rfl w6.heap.size (qH _ _ rfl) (by intro u hu; simp at hu; rcases hu with rfl | rfl <;> rfl) (by decide); obtain ⟨g7, c7, rfl, hg7, _⟩ := qDN ho7; refine qQ rfl _ _ _ _ rfl _ _ rfl rfl happ ?_)
  | fail)
 rw [rounds_succ]
 have HB67 : Hid (Below w6.heap.size w6 w7) := ((Below.refl w6.heap.size w6).alloc (Nat.le_refl _) _).grown hgr7 (by simp) (fun j hj => by cases hj)
 have HO7 := Lib.hid ho7
 clear happ ho7 hgr7
 go_wp2_with fail
 go_returns
 have hz := HB46.out.size
 have hz4 := HB4.out.size
 have HB47 := HB46.out.trans (HB67.out.mono HB46.out.size)
 exact ⟨⟨g7, c7, .slice la6 5 lc6, q, rfl, qHv HO7.out (by omega), ⟨_, ownU HR6.out HB67.out⟩, _, HIN4.out.go HB47⟩, HB4.out.trans (HB47.mono HB4.out.size)⟩
theorem qFF (a1 a2 : Option Addr) (n1 c1 n2 c2 : Nat) (w : World) :
  Calls Tryz.prog 186 #[.slice a1 n1 c1, .slice a2 n2 c2] w fun r w' => (∃ pb lb, r = .returned (.func (.func 216) #[] #[.pointer (some ⟨pb, 0, none⟩), .pointer (some ⟨lb, 0, none⟩)]) /\ w'.heap[pb]? = some (.cells #[.slice a1 n1 c1] 29 (0, 0)) /\ w'.heap[lb]? = some (.cells #[.slice a2 n2 c2] 99 (0, 0))) /\ Below w.heap.size w w' := by
 go_enter Tryz.func186, Tryz.ntmps186
 go_wp2_with fail
 go_returns
 refine ⟨⟨w.heap.size, w.heap.size + 1, rfl, ?_, qH _ _ (by go_size)⟩, by go_grown⟩
 rw [old2 _ _ (by go_size)]
 exact qH _ _ rfl
theorem qF0 (x : Tk) (w : World) : Calls Tryz.prog 214 #[qFh x] w fun r w' => r = .returned (.bool (!(x.k == 1))) /\ Below w.heap.size w w' := by
 have HW := Lib.hid fun W => qFz x.k x.n x.t W
 obtain ⟨k, n, t⟩ := x
 unfold qFh tokV at *
 simp only at *
 generalize ((k == 1) : Bool) = b at *
 go_enter Tryz.func214, Tryz.ntmps214
 go_wp2_with (go_at_call 146; refine (HW.out _).mono ?_; rintro e w1 ⟨rfl, hb1⟩)
 go_ret
 exact ⟨rfl, Below.trans (by go_grown) (hb1.mono (by go_size))⟩
theorem qIj (v : Value) (x y : Tk) (w : World) (h : qI w v [x, y]) (hx : x.k = 1) (hy : y.k = 1) :
  Calls Tryz.prog 184 #[v] w fun r w' => r = .returned (.bool true) /\ Below w.heap.size w w' := by
 obtain ⟨ad, cap, rfl, hc, hm, hcl⟩ := h
 obtain ⟨b, o, rfl, hlt, hcell⟩ := hcl (by simp)
 have c0 := hcell 0 (by simp)
 have c1 := hcell 1 (by simp)
 simp only [Nat.zero_mul, Nat.one_mul, Nat.add_zero, List.getElem_cons_zero, List.getElem_cons_succ] at c0 c1
 obtain ⟨k0, k1, k2, k3⟩ := c0
 obtain ⟨j0, j1, j2, j3⟩ := c1
 have HCM := Lib.hid fun W => qCG x.k x.n x.t W
 have HO1 := Lib.hid fun W => qF0 x W
 have HO2 := Lib.hid fun W => qF0 y W
 obtain ⟨xk, xn, xt⟩ := x
 obtain ⟨yk, yn, yt⟩ := y
 simp only at hx hy
 subst hx hy
 unfold qFh tokV at *
 simp only [List.length_cons, List.length_nil] at *
 clear hcl hcell
 go_enter Tryz.func184, Tryz.ntmps184
 go_wp2_with (first
  | (go_at_call 152; refine (HCM.out _).mono ?_; rintro e w1 ⟨rfl, hb1⟩; have HB1 : Hid (Below w.heap.size w w1) := Below.trans (by go_grown) (hb1.mono (by go_size)); clear hb1)
  | fail)
 have a0 := (HB1.out.cell (p := ⟨b, o, none⟩) hlt).trans k0
 have a1 := (HB1.out.cell (p := ⟨b, o + 1, none⟩) hlt).trans k1
 have a2 := (HB1.out.cell (p := ⟨b, o + 2, none⟩) hlt).trans k2
 have a3 := (HB1.out.cell (p := ⟨b, o + 3, none⟩) hlt).trans k3
 have hz1 : b < w1.heap.size := Nat.lt_of_lt_of_le hlt HB1.out.size
 clear k0 k1 k2 k3
 refine wp_loop_rounds 3 ?_
 rw [rounds_succ]
 go_wp2_with (first
  | (go_at_call 214; refine (HO1.out _).mono ?_; rintro e w2 ⟨rfl, hb2⟩; have HB2 : Hid (Below w.heap.size w w2) := HB1.out.trans ((show Below w1.heap.size w1 w2 from Below.trans (by go_grown) (hb2.mono (by go_size))).mono HB1.out.size); clear hb2)
  | fail)
 have e0 := (HB2.out.cell (p := ⟨b, o + 4, none⟩) hlt).trans j0
 have e1 := (HB2.out.cell (p := ⟨b, o + 4 + 1, none⟩) hlt).trans j1
 have e2 := (HB2.out.cell (p := ⟨b, o + 4 + 2, none⟩) hlt).trans j2
 have e3 := (HB2.out.cell (p := ⟨b, o + 4 + 3, none⟩) hlt).trans j3
 have hz2 : b < w2.heap.size := Nat.lt_of_lt_of_le hlt HB2.out.size
 clear j0 j1 j2 j3 a0 a1 a2 a3
 rw [rounds_succ]
 go_wp2_with (first
  | (go_at_call 214; refine (HO2.out _).mono ?_; rintro e w3 ⟨rfl, hb3⟩; have HB3 : Hid (Below w.heap.size w w3) := HB2.out.trans ((show Below w2.heap.size w2 w3 from Below.trans (by go_grown) (hb3.mono (by go_size))).mono HB2.out.size); clear hb3)
  | fail)
 rw [rounds_succ]
 go_wp2_with fail
 go_returns
 exact ⟨rfl, HB3.out⟩
end Go.Proofs.YtgjmbjahgcndnaaGreatDoor
namespace Go.Proofs.YtgjmbjahgcndnaaGreatDoor
open Go.RowKit Go.Shelf
attribute [local go_sem] Oper.semAt_some
theorem qDi {F : Fence} {n : Nat} {P : Program} {f : FuncId} {args : Array Value} {w : World} {R : Ending -> World -> Prop} (l : Nat) (h : CallsIn F n P f args w R) : CallsIn (F.inRound l) n P f args w R := h
def nmN : ByteArray := ⟨#[110]⟩
def nmM : ByteArray := ⟨#[109, 111, 114, 101]⟩
theorem look0 (mb : Nat) (s : ByteArray) (w : World) (h : w.heap[mb]? = some (.map #[] 0)) : (Instr.lookup 89 (.map (some mb)) (.string s) false).run Tryz.prog w = .ok (.int .i64 0) w := by
 have hz : (zeroValue 3).run Tryz.prog w = .ok (.int .i64 0) w := by kernel_rfl
 have hu : (underlying 89).run Tryz.prog w = .ok (.map 9 3) w := by kernel_rfl
 have hg : (getObj mb).run Tryz.prog w = .ok (.map #[] 0) w := by simp [getObj, Sem.run, h]
 have hk : (Instr.checkKey (#[] : Array MapEntry).isEmpty 10000 9 (.string s)).run Tryz.prog w = .ok () w := by kernel_rfl
 have hf : (Instr.findKey 9 (.string s) (#[] : Array MapEntry).toList).run Tryz.prog w = .ok none w := by kernel_rfl
 unfold Instr.lookup
 simp only [Sem.run_bind, hu, hg, hk, hf, hz, Result.andThen_ok, Sem.run_pure]
 rfl
def mpN : Obj := .map #[{ key := .string nmN, val := .int .i64 1, born := 0 }] 1
theorem look1 (mb : Nat) (w : World) (h : w.heap[mb]? = some mpN) : (Instr.lookup 89 (.map (some mb)) (.string nmN) false).run Tryz.prog w = .ok (.int .i64 1) w := by
 have hu : (underlying 89).run Tryz.prog w = .ok (.map 9 3) w := by kernel_rfl
 have hg : (getObj mb).run Tryz.prog w = .ok mpN w := by simp [getObj, Sem.run, h, mpN]
 have hk : (Instr.checkKey (#[{ key := .string nmN, val := .int .i64 1, born := 0 }] : Array MapEntry).isEmpty 10000 9 (.string nmN)).run Tryz.prog w = .ok () w := by kernel_rfl
 have hf : (Instr.findKey 9 (.string nmN) (#[{ key := .string nmN, val := .int .i64 1, born := 0 }] : Array MapEntry).toList).run Tryz.prog w = .ok (some (0, .int .i64 1)) w := by kernel_rfl
 unfold Instr.lookup
 unfold mpN at *
 simp only [Sem.run_bind, hu, hg, hk, hf, Result.andThen_ok, Sem.run_pure]
 rfl
theorem upd0 (mb : Nat) (W : World) (h : W.heap[mb]? = some (.map #[] 0)) : ∃ W', (Instr.mapUpdate 89 (.map (some mb)) (.string nmN) (.int .i64 1)).run Tryz.prog W = .ok () W' /\ W'.heap[mb]? = some mpN /\ W.grownBy W' (some mb) := by
 refine ⟨ChangeMaps.setBlock W mb mpN, ?_, ChangeMaps.heap_setBlock_same h _, ⟨rfl, rfl, rfl, by simp [ChangeMaps.setBlock], fun i _ hi => ChangeMaps.heap_setBlock_other h _ (fun e => hi (by rw [e]))⟩⟩
 have hk : (Instr.checkKey (#[] : Array MapEntry).isEmpty 10000 9 (.string nmN)).run Tryz.prog W = .ok () W := by kernel_rfl
 have hk2 : ∀ b, (Instr.checkKey b 10000 9 (.string nmN)).run Tryz.prog W = .ok () W := by intro b; cases b <;> kernel_rfl
 have hf : (Instr.findKey 9 (.string nmN) []).run Tryz.prog W = .ok none W := by kernel_rfl
 unfold Instr.mapUpdate
 simp [Sem.run_bind, run_underlying Tryz.underlying89, MapKept.run_getObj_map h, MapKept.run_setObj_map _ h, hk2, hf, Result.andThen, ChangeMaps.setBlock, mpN]
structure NmI (w : World) (pre : List Tk) (W : World) : Prop where
 ot : ∃ v, Boxed W (w.heap.size + 1 + 1) 29 v /\ W.ownsRow w.heap.size 9 1 v pre.length (pre.map fun t => .string t.t)
 mp : W.heap[w.heap.size + 1 + 1 + 1]? = some (if pre.length = 2 then mpN else .map #[] 0)
 cb : W.heap[w.heap.size + 1 + 1 + 1 + 1]? = some (.cells #[.map (some (w.heap.size + 1 + 1 + 1))] 89 (0, 0))
 ra : W.heap[w.heap.size]? = some (.cells #[.slice none 0 0] 29 (0, 0))
 rb : W.heap[w.heap.size + 1]? = some (.cells #[.bool false] 4 (0, 0))
 bl : Below w.heap.size w W
 sz : w.heap.size + 6 <= W.heap.size
theorem NmI.grown {w : World} {pre : List Tk} {W W' : World} {r : Option Nat} (h : NmI w pre W) (hg : W.grownBy W' r) (hr : ∀ k, r = some k -> w.heap.size + 6 <= k /\ ∃ o, W.heap[k]? = some o /\ ∀ c f, o ≠ .cells c 9 f) : NmI w pre W' := by
 have hne : ∀ k, k < w.heap.size + 6 -> some k ≠ r := fun k hk e => by have := (hr k e.symm).1; omega
 have hsz := h.sz
 obtain ⟨v, hv, hrow⟩ := h.ot
 refine ⟨⟨v, hv.kept hg (hne _ (by omega)), hrow.kept hg ?_⟩, (hg.block _ (by omega) (hne _ (by omega))).trans h.mp, (hg.block _ (by omega) (hne _ (by omega))).trans h.cb, (hg.block _ (by omega) (hne _ (by omega))).trans h.ra, (hg.block _ (by omega) (hne _ (by omega))).trans h.rb, h.bl.grown hg h.bl.size (fun k e => by have := (hr k e).1; omega), Nat.le_trans h.sz hg.size⟩
 rcases hrow.2 with ⟨rfl, _⟩ | ⟨g, cap', cur, rfl, _, hgb, _⟩
 ·exact .inl rfl
 ·refine .inr fun e => ?_
  obtain ⟨_, o, h2, h3⟩ := hr g e.symm
  rw [hgb] at h2
  injection h2 with h2
  exact h3 _ _ h2.symm
theorem NmI.below {w : World} {pre : List Tk} {W W' : World} (h : NmI w pre W) (hb : Below W.heap.size W W') : NmI w pre W' := by
 have hsz := h.sz
 obtain ⟨v, hv, hrow⟩ := h.ot
 exact ⟨⟨v, (hb.block _ (by omega)).trans hv, ownU hrow hb⟩, (hb.block _ (by omega)).trans h.mp, (hb.block _ (by omega)).trans h.cb, (hb.block _ (by omega)).trans h.ra, (hb.block _ (by omega)).trans h.rb, h.bl.trans (hb.mono h.bl.size), Nat.le_trans h.sz hb.size⟩
theorem infoS9 : (Tryz.prog.info? 9).map (fun i => (i.zero, i.size, i.bytes)) = some (some (.string ⟨#[]⟩), 1, 16) := by kernel_rfl
theorem qEB {W1 w2 : World} {n0 B k : Nat} {v v' : Value} {xs : List Value} {tmp : Obj} (hrow : W1.ownsRow n0 9 1 v k xs) (hgrow : (W1.alloc tmp).grownBy w2 v.ownBlock) (i : Nat) (o : Obj) (hi : W1.heap[i]? = some o) (hne : i ≠ B) (ho : ∀ c f, o ≠ .cells c 9 f) : (w2.setCell ⟨B, 0, none⟩ v').heap[i]? = some o := by
 have hz := qC hi
 rw [Below.heap_setCell _ _ _ _ hne, hgrow.block i (by simp; omega) (fun e => ?_), old2 _ _ hz]
 ·exact hi
 ·rcases hrow.2 with ⟨rfl, _⟩ | ⟨g, cap', cur, rfl, _, hgb, _⟩
  ·cases e
  ·simp only [Value.ownBlock, Option.some.injEq] at e
   subst e
   rw [hi] at hgb
   injection hgb with hgb
   exact ho _ _ hgb
theorem nm_fin {w W W1 w2 : World} {pre : List Tk} {x : Tk} {v v' : Value} {tmp : Obj} (hsz : w.heap.size + 6 <= W1.heap.size) (hv : Boxed W1 (w.heap.size + 1 + 1) 29 v) (hrow : W1.ownsRow w.heap.size 9 1 v pre.length (pre.map fun t => .string t.t))
  (hmp : W1.heap[w.heap.size + 1 + 1 + 1]? = some (if (pre ++ [x]).length = 2 then mpN else .map #[] 0)) (hcb : W1.heap[w.heap.size + 1 + 1 + 1 + 1]? = some (.cells #[.map (some (w.heap.size + 1 + 1 + 1))] 89 (0, 0))) (hra : W1.heap[w.heap.size]? = some (.cells #[.slice none 0 0] 29 (0, 0))) (hrb : W1.heap[w.heap.size + 1]? = some (.cells #[.bool false] 4 (0, 0))) (hbl : Below w.heap.size w W1)
  (hown' : w2.ownsRow w.heap.size 9 1 v' (pre.length + 1) ((pre.map fun t => .string t.t) ++ [.string x.t])) (hgrow : (W1.alloc tmp).grownBy w2 v.ownBlock)
  (hK : KeepsFrom (w.heap.size + 6) W W1) (hT : KpT w.heap.size (w.heap.size + 6) W W1) :
  KeepsFrom (w.heap.size + 6) W (w2.setCell ⟨w.heap.size + 1 + 1, 0, none⟩ v') /\ KpT w.heap.size (w.heap.size + 6) W (w2.setCell ⟨w.heap.size + 1 + 1, 0, none⟩ v') /\ NmI w (pre ++ [x]) (w2.setCell ⟨w.heap.size + 1 + 1, 0, none⟩ v') := by
 obtain ⟨hv1, hv2, hr2, hk2, hb2⟩ := hv.appended (by decide) hrow hbl.size (by omega) hown' hgrow
 refine ⟨hK.trans (hk2.from _), hT.trans ⟨hb2, fun i c f hi hb => qEB hrow hgrow i _ hb (by omega) (fun c f e => by injection e with _ e _; exact absurd e (by decide))⟩, ⟨v', hv2, ?_⟩, qEB hrow hgrow _ _ hmp (by omega) (fun c f e => by unfold mpN at e; split at e <;> cases e), qEB hrow hgrow _ _ hcb (by omega) (fun c f e => by injection e with _ e _; exact absurd e (by decide)), qEB hrow hgrow _ _ hra (by omega) (fun c f e => by injection e with _ e _; exact absurd e (by decide)), qEB hrow hgrow _ _ hrb (by omega) (fun c f e => by injection e with _ e _; exact absurd e (by decide)), hbl.trans hb2, Nat.le_trans hsz hk2.size⟩
 rw [List.length_append, List.map_append]
 exact hr2
theorem qKz (b o cap : Nat) (w : World) (h : qI w (.slice (some ⟨b, o, none⟩) 2 cap) [⟨1, 0, nmM⟩, ⟨1, 0, nmN⟩]) :
  Calls Tryz.prog 185 #[.slice (some ⟨b, o, none⟩) 2 cap] w fun r w' => (∃ g c, r = .returned (.tuple #[.slice (some ⟨g, 0, none⟩) 2 c, .bool true]) /\ w'.ownsRow w.heap.size 9 1 (.slice (some ⟨g, 0, none⟩) 2 c) 2 [.string nmM, .string nmN]) /\ Below w.heap.size w w' := by
 obtain ⟨i9, hi9, hz0, hz1, hz2⟩ := info_parts infoS9
 have HNM := Lib.hid fun W => by have := Xp.qCg nmM W; rwa [show Xp.qL nmM.data.toList = true by decide] at this
 have HNN := Lib.hid fun W => by have := Xp.qCg nmN W; rwa [show Xp.qL nmN.data.toList = true by decide] at this
 have hmm : ∀ w, (Instr.makeMap 89 none).run Tryz.prog w = .ok (.map (some w.heap.size)) (w.alloc (.map #[] 0)) := fun w => rfl
 refine callsIn_wide.1 (callsIn_of_wp_marks (n := 10) Tryz.func185 rfl trivial ?_ rfl)
 simp only [Tryz.ntmps185, List.size_toArray, List.length_cons, List.length_nil, Nat.reduceAdd, Nat.reduceSub, Array.replicate_succ, Array.replicate_zero, List.push_toArray, List.append_toArray, List.nil_append, List.cons_append]
 gi_wp2_with (refine ⟨trivial, ?_⟩; gi_at_call 190; refine (all_in Fence.wide (10 - 1) trivial rfl _ _ _ _).mono ?_; rintro e w' ⟨rfl, rfl⟩)
 clear hmm
 have hB0 : Below w.heap.size w ((((((w.alloc (Obj.cells #[.slice none 0 0] 29)).alloc (Obj.cells #[.bool false] 4)).alloc (Obj.cells #[.slice none 0 0] 29)).alloc (Obj.map #[] 0)).alloc (Obj.cells #[.map (some (w.heap.size + 1 + 1 + 1))] 89)).alloc (Obj.cells #[.slice (some ⟨b, o, none⟩) 2 cap] 143)) := by go_grown
 obtain ⟨W0, hW0⟩ : ∃ W0, ((((((w.alloc (Obj.cells #[.slice none 0 0] 29)).alloc (Obj.cells #[.bool false] 4)).alloc (Obj.cells #[.slice none 0 0] 29)).alloc (Obj.map #[] 0)).alloc (Obj.cells #[.map (some (w.heap.size + 1 + 1 + 1))] 89)).alloc (Obj.cells #[.slice (some ⟨b, o, none⟩) 2 cap] 143)) = W0 := ⟨_, rfl⟩
 have hsz : W0.heap.size = w.heap.size + 6 := by rw [<- hW0]; simp
 have hI0 : NmI w [] W0 := by
  rw [<- hW0]
  refine ⟨⟨.slice none 0 0, ?_, World.ownsRow_nil _ _ _ _⟩, ?_, ?_, ?_, ?_, hB0, by simp⟩
  ·show _ = _
   rw [old2 _ _ (by go_size), old2 _ _ (by go_size), old2 _ _ (by go_size)]
   exact qH _ _ (by go_size)
  ·show _ = some (Obj.map #[] 0)
   rw [old2 _ _ (by go_size), old2 _ _ (by go_size)]
   exact qH _ _ (by go_size)
  ·rw [old2 _ _ (by go_size)]
   exact qH _ _ (by go_size)
  ·rw [old2 _ _ (by go_size), old2 _ _ (by go_size), old2 _ _ (by go_size), old2 _ _ (by go_size), old2 _ _ (by go_size)]
   exact qH _ _ rfl
  ·rw [old2 _ _ (by go_size), old2 _ _ (by go_size), old2 _ _ (by go_size), old2 _ _ (by go_size)]
   exact qH _ _ (by go_size)
 rw [hW0] at hB0 ⊢
 have bN : W0.cell? ⟨w.heap.size + 1 + 1 + 1 + 1 + 1, 0, none⟩ = some (.slice (some ⟨b, o, none⟩) 2 cap) := by
  rw [<- hW0]
  exact qB (qH _ _ (by simp)) rfl
 have hbl : b < w.heap.size := by
  obtain ⟨_, _, e, _, _, hcl⟩ := h
  injection e with e _ _
  obtain ⟨b', o', e2, hlt, _⟩ := hcl (by simp)
  rw [<- e] at e2
  injection e2 with e2
  injection e2 with e2 _ _
  omega
 refine qD2 rfl (by decide) (gf := 224) (lb := #[.pointer (some ⟨w.heap.size + 1 + 1 + 1 + 1 + 1, 0, none⟩)]) rfl trivial (enters_of Tryz.func224 (by kernel_rfl) rfl)
  (qIJ Fence.wide (10 - 1) trivial rfl (by decide) (w.heap.size + 1 + 1 + 1 + 1 + 1) w.heap.size (w.heap.size + 6) b o cap [⟨1, 0, nmM⟩, ⟨1, 0, nmN⟩] (by simp) hbl W0 (by omega) (by omega) (by omega) bN (h.below hB0 (Nat.le_refl _)))
  (fun A B C h k => h.trans k) ?hkb (Below.refl _ _) (fun _ => rfl)
  (NmI w)
  (fun s W W' r hs hg hr => hs.grown hg fun k e => ⟨by have := (hr k e).1; omega, by
   obtain ⟨_, ob, h1, h2⟩ := hr k e
   exact ⟨ob, h1, fun c f e2 => by rw [e2] at h2; cases h2⟩⟩)
  (fun s W W' r hs hg hr => hs.grown hg fun k e => ⟨by have := (hr k e).1; omega, by
   obtain ⟨_, c, f, h1⟩ := hr k e
   exact ⟨_, h1, fun c' f' e2 => by injection e2 with _ e2 _; exact absurd e2 (by decide)⟩⟩) hI0
  (fun x a' W => ∃ Bx, w.heap.size + 6 <= Bx /\ W.heap[Bx]? = some (.cells #[.int .i64 x.k, .int .i64 x.n, .string x.t] 171 (0, 0)) /\ a' = { tmps := #[.slice (some ⟨b, o, none⟩) 2 cap, undef, .pointer (some ⟨w.heap.size, 0, none⟩), .pointer (some ⟨w.heap.size + 1, 0, none⟩), .pointer (some ⟨w.heap.size + 1 + 1, 0, none⟩), .pointer (some ⟨w.heap.size + 1 + 1 + 1 + 1, 0, none⟩), .pointer (some ⟨Bx, 0, none⟩), .map (some (w.heap.size + 1 + 1 + 1)), .slice (some ⟨b, o, none⟩) 2 cap, .func (.func 224) #[] #[.pointer (some ⟨w.heap.size + 1 + 1 + 1 + 1 + 1, 0, none⟩)], x.V, undef, undef, undef, undef, undef, undef, undef, undef, undef, undef, undef, undef, undef, undef, undef, undef, undef, undef, undef, undef, undef, undef, undef, undef, undef, undef, undef], defers := [] })
  ?hax ?assign ?body ?done
 case hkb =>
  intro W l ob ob' hl ho hc
  refine ⟨(Below.refl _ W).grown (grownBy_putObj' W l ob') (by have := qC ho; omega) (fun k e => by cases e; omega), fun i c f hi hb => ?_⟩
  rw [World.putObj_heap_other (by rintro rfl; rw [ho] at hb; cases hb; cases hc)]
  exact hb
 case hax =>
  rintro ⟨x, a'⟩ X Y r ⟨Bx, h1, h2, h3⟩ hg hr
  refine ⟨Bx, h1, ?_, h3⟩
  rw [hg.block Bx (qC h2) (fun e => ?_)]
  ·exact h2
  ·obtain ⟨_, ob, h4, h5⟩ := hr Bx e.symm
   rw [h2] at h4
   cases h4
   cases h5
 case assign =>
  intro l pre x W K hi hK
  obtain ⟨xk, xn, xt⟩ := x
  unfold Tk.V tokV at *
  have hI2 := Lib.hid (show NmI w pre (W.alloc (.cells #[.int .i64 xk, .int .i64 xn, .string xt] 171)) from hi.grown (World.grownBy_alloc W _ none) (fun k e => by cases e))
  gi_wp2
  exact hK _ _ ((KeepsOthers.alloc _ _).from _) ⟨(Below.refl _ W).alloc hi.bl.size _, fun i c f _ hb => by rw [old2 _ _ (qC hb)]; exact hb⟩ hI2.out ⟨W.heap.size, hi.sz, qH _ _ rfl, rfl⟩
 case body =>
  rintro l pre x rest a' W hx hi ⟨Bx, hBx, bX, rfl⟩
  obtain ⟨v, hv, hrow⟩ := hi.ot
  have hmp := hi.mp
  have hcb := hi.cb
  have c0 : W.cell? ⟨w.heap.size + 1 + 1, 0, none⟩ = some v := hv.cell
  have c1 : W.cell? ⟨w.heap.size + 1 + 1 + 1 + 1, 0, none⟩ = some (.map (some (w.heap.size + 1 + 1 + 1))) := qB hcb rfl
  have hsz2 := hi.sz
  match pre, hx with
  | [], hx =>
    obtain ⟨rfl, rfl⟩ : x = ⟨1, 0, nmM⟩ /\ rest = [⟨1, 0, nmN⟩] := by simpa [eq_comm] using hx
    have b0 : W.cell? ⟨Bx, 0, none⟩ = some (.int .i64 1) := qB bX rfl
    have b1 : W.cell? ⟨Bx, 1, none⟩ = some (.int .i64 0) := qB bX rfl
    have b2 : W.cell? ⟨Bx, 2, none⟩ = some (.string nmM) := qB bX rfl
    have HI := Lib.hid hi
    have HBX := Lib.hid bX
    clear hv hrow hi bX hmp hcb c0 c1
    unfold Tk.V tokV at *
    gi_wp2_with (first
     | (refine ⟨trivial, ?_⟩; gi_at_call 152; refine (qDi _ (callsIn_wide.2 (qCG 1 0 nmM _))).mono ?_; rintro e w1 ⟨rfl, hb1⟩; have HI1 := Lib.hid (HI.out.below hb1); have HB1 := Lib.hid hb1; obtain ⟨v1, hv1, hr1⟩ := HI1.out.ot; obtain ⟨la, lc, rfl⟩ := qG hr1; have d0 := hv1.cell; have d1 : w1.cell? ⟨w.heap.size + 1 + 1 + 1 + 1, 0, none⟩ = some (.map (some (w.heap.size + 1 + 1 + 1))) := qB HI1.out.cb rfl; have d2 : w1.cell? ⟨Bx, 2, none⟩ = some (.string nmM) := (hb1.cell (by exact qC HBX.out)).trans b2; have hlk := look0 (w.heap.size + 1 + 1 + 1) nmM w1 (by have := HI1.out.mp; rwa [if_neg (by simp)] at this); have HV1 := Lib.hid hv1; have HR1 := Lib.hid hr1; clear hb1 hv1 hr1; simp only [List.length_nil] at d0)
     | (refine ⟨trivial, ?_⟩; gi_at_call 75; refine (qDi _ (callsIn_wide.2 (HNM.out _))).mono ?_; rintro e w2 ⟨rfl, rfl⟩)
     | (gi_at_builtin; refine wpListIn_append_own _ rfl _ _ 29 rfl w.heap.size 9 i9 (.string ⟨#[]⟩) 1 16 Tryz.underlying29 hi9 hz0 hz1 hz2 rfl (by decide) _ _ _ rfl (HR1.out.alloc _) ⟨w2.heap.size, 0, none⟩ 1 1 [.string nmM] rfl rfl (qDT _ _ _) (by simp [Value.oneCell']) (by decide) (by decide) (by have := HI1.out.bl.size; simp; omega) ?_; intro v' w3 hown' hgrow _; have HO := Lib.hid hown'; have HG := Lib.hid hgrow; obtain ⟨hv1, _, _, _, _⟩ := HV1.out.appended (by decide) HR1.out HI1.out.bl.size (by omega) hown' hgrow; obtain ⟨la3, lc3, rfl⟩ := qG hown'; have hc1 := hv1.cell; have hf1 := hv1.frozen; clear hown' hgrow hv1)
     | fail)
    have hf := nm_fin (W := W) (pre := []) (x := ⟨1, 0, nmM⟩) HI1.out.sz HV1.out HR1.out (by have := HI1.out.mp; simpa using this) HI1.out.cb HI1.out.ra HI1.out.rb HI1.out.bl HO.out HG.out ⟨HB1.out.size, fun k o _ hk _ => (HB1.out.block k (qC hk)).trans hk⟩ ⟨HB1.out.mono HI.out.bl.size, fun i c f _ hb => (HB1.out.block _ (qC hb)).trans hb⟩
    rw [hsz]
    exact ⟨rfl, hf.1, hf.2.1, hf.2.2⟩
  | [a], hx =>
    obtain ⟨rfl, rfl, rfl⟩ : a = ⟨1, 0, nmM⟩ /\ x = ⟨1, 0, nmN⟩ /\ rest = [] := by
     simp only [List.cons_append, List.nil_append, List.cons.injEq] at hx
     exact ⟨hx.1.symm, hx.2.1.symm, hx.2.2.symm⟩
    have b0 : W.cell? ⟨Bx, 0, none⟩ = some (.int .i64 1) := qB bX rfl
    have b1 : W.cell? ⟨Bx, 1, none⟩ = some (.int .i64 0) := qB bX rfl
    have b2 : W.cell? ⟨Bx, 2, none⟩ = some (.string nmN) := qB bX rfl
    have HI := Lib.hid hi
    have HBX := Lib.hid bX
    clear hv hrow hi bX hmp hcb c0 c1
    unfold Tk.V tokV at *
    gi_wp2_with (first
     | (refine ⟨trivial, ?_⟩; gi_at_call 152; refine (qDi _ (callsIn_wide.2 (qCG 1 0 nmN _))).mono ?_; rintro e w1 ⟨rfl, hb1⟩; have HI1 := Lib.hid (HI.out.below hb1); have HB1 := Lib.hid hb1; obtain ⟨v1, hv1, hr1⟩ := HI1.out.ot; obtain ⟨la, lc, rfl⟩ := qG hr1; have d0 := hv1.cell; have d1 : w1.cell? ⟨w.heap.size + 1 + 1 + 1 + 1, 0, none⟩ = some (.map (some (w.heap.size + 1 + 1 + 1))) := qB HI1.out.cb rfl; have x1 := (hb1.block _ (qC HBX.out)).trans HBX.out; have d2 : w1.cell? ⟨Bx, 2, none⟩ = some (.string nmN) := qB x1 rfl; have hmp1 : w1.heap[w.heap.size + 1 + 1 + 1]? = some (.map #[] 0) := (by have := HI1.out.mp; rwa [if_neg (by simp)] at this); have hlk := look0 (w.heap.size + 1 + 1 + 1) nmN w1 hmp1; obtain ⟨w2, hup, hm2, hg2⟩ := upd0 (w.heap.size + 1 + 1 + 1) w1 hmp1; have kp : ∀ {i : Nat} {o : Obj}, w1.heap[i]? = some o -> i ≠ w.heap.size + 1 + 1 + 1 -> w2.heap[i]? = some o := (fun {i o} hi h1 => (hg2.block i (qC hi) (fun e => h1 (by injection e with e))).trans hi); have HV1 : Hid (Boxed w2 (w.heap.size + 1 + 1) 29 (.slice la 1 lc)) := kp hv1 (by omega); have HR1 : Hid (w2.ownsRow w.heap.size 9 1 (.slice la 1 lc) 1 [.string nmM]) := hr1.kept hg2 (.inr (fun e => by have := qGn hr1 hmp1; exact this e.symm)); have HC1 := Lib.hid (kp HI1.out.cb (by omega)); have HA1 := Lib.hid (kp HI1.out.ra (by omega)); have HBB := Lib.hid (kp HI1.out.rb (by omega)); have e0 := HV1.out.cell; have e1 : w2.cell? ⟨w.heap.size + 1 + 1 + 1 + 1, 0, none⟩ = some (.map (some (w.heap.size + 1 + 1 + 1))) := qB HC1.out rfl; have e2 : w2.cell? ⟨Bx, 2, none⟩ = some (.string nmN) := qB (kp x1 (by omega)) rfl; have hlk1 := look1 (w.heap.size + 1 + 1 + 1) w2 hm2; have HB2 : Hid (Below w.heap.size w w2) := HI1.out.bl.trans ⟨hg2.os, hg2.tape, hg2.output, hg2.size, fun i hi => by have := HI1.out.bl.size; exact hg2.block i (by omega) (fun e => by injection e with e; omega)⟩; have HSZ : w.heap.size + 6 <= w2.heap.size := Nat.le_trans HI1.out.sz hg2.size; have HKF : Hid (KeepsFrom (w.heap.size + 6) W w2) := (show KeepsFrom (w.heap.size + 6) W w1 from ⟨hb1.size, fun k o _ hk _ => (hb1.block k (qC hk)).trans hk⟩).trans ⟨hg2.size, fun k o hB hk _ => kp hk (by omega)⟩; have HKT : Hid (KpT w.heap.size (w.heap.size + 6) W w2) := KpT.trans ⟨hb1.mono HI.out.bl.size, fun i c f _ hb => (hb1.block _ (qC hb)).trans hb⟩ ⟨⟨hg2.os, hg2.tape, hg2.output, hg2.size, fun i hi => by have := HI1.out.bl.size; exact hg2.block i (by omega) (fun e => by injection e with e; omega)⟩, fun i c f hi hb => kp hb (by omega)⟩; have HM2 := Lib.hid hm2; clear hb1 hv1 hr1 x1 hm2 hg2 kp hmp1; simp only [List.length_cons, List.length_nil] at d0)
     | (refine ⟨trivial, ?_⟩; gi_at_call 75; refine (qDi _ (callsIn_wide.2 (HNN.out _))).mono ?_; rintro e w2' ⟨rfl, rfl⟩)
     | (gi_at_builtin; refine wpListIn_append_own _ rfl _ _ 29 rfl w.heap.size 9 i9 (.string ⟨#[]⟩) 1 16 Tryz.underlying29 hi9 hz0 hz1 hz2 rfl (by decide) _ _ _ rfl (HR1.out.alloc _) ⟨_, 0, none⟩ 1 1 [.string nmN] rfl rfl (qDT _ _ _) (by simp [Value.oneCell']) (by decide) (by decide) (by have := HB2.out.size; simp; omega) ?_; intro v' w3 hown' hgrow _; have HO := Lib.hid hown'; have HG := Lib.hid hgrow; obtain ⟨hv1, _, _, _, _⟩ := HV1.out.appended (by decide) HR1.out HB2.out.size (by omega) hown' hgrow; obtain ⟨la3, lc3, rfl⟩ := qG hown'; have hc1 := hv1.cell; have hf1 := hv1.frozen; clear hown' hgrow hv1)
     | fail)
    have hf := nm_fin (W := W) (pre := [⟨1, 0, nmM⟩]) (x := ⟨1, 0, nmN⟩) HSZ HV1.out HR1.out (by simpa using HM2.out) HC1.out HA1.out HBB.out HB2.out HO.out HG.out HKF.out HKT.out
    rw [hsz]
    exact ⟨rfl, hf.1, hf.2.1, hf.2.2⟩
  | a :: a2 :: r, hx =>
    have := congrArg List.length hx
    simp at this
 case done =>
  rintro D W hD hi hK
  obtain ⟨v, hv, hrow⟩ := hi.ot
  obtain ⟨g7, c7, rfl, hg7, _⟩ := qDN hrow
  have hc := hv.cell
  have hra := hi.ra
  have hrb := hi.rb
  have r0 : W.cell? ⟨w.heap.size, 0, none⟩ = some (.slice none 0 0) := qB hra rfl
  have r1 : W.cell? ⟨w.heap.size + 1, 0, none⟩ = some (.bool false) := qB hrb rfl
  have q0 : W.frozen? ⟨w.heap.size, 0, none⟩ = false := qD hra
  have q1 : W.frozen? ⟨w.heap.size + 1, 0, none⟩ = false := qD hrb
  have HV := Lib.hid hv
  have HR := Lib.hid hrow
  have HI := Lib.hid hi
  have HK := Lib.hid hK
  have HA := Lib.hid hra
  have HB := Lib.hid hrb
  clear hv hrow hi hra hrb hK
  gi_wp2
  have hDn : w.heap.size + 6 <= D := by omega
  have hA2 := qJ (i := 0) (v := .slice (some ⟨g7, 0, none⟩) 2 c7) HA.out
  have hB2 : (W.setCell ⟨w.heap.size, 0, none⟩ (.slice (some ⟨g7, 0, none⟩) 2 c7)).heap[w.heap.size + 1]? = some (.cells #[.bool false] 4 (0, 0)) := (Below.heap_setCell _ _ _ _ (by show w.heap.size + 1 ≠ w.heap.size; omega)).trans HB.out
  have hB3 := qJ (i := 0) (v := .bool true) hB2
  have hA3 : ((W.setCell ⟨w.heap.size, 0, none⟩ (.slice (some ⟨g7, 0, none⟩) 2 c7)).setCell ⟨w.heap.size + 1, 0, none⟩ (.bool true)).heap[w.heap.size]? = some (.cells #[.slice (some ⟨g7, 0, none⟩) 2 c7] 29 (0, 0)) := (Below.heap_setCell _ _ _ _ (by show w.heap.size ≠ w.heap.size + 1; omega)).trans hA2
  have hK2 : ((W.setCell ⟨w.heap.size, 0, none⟩ (.slice (some ⟨g7, 0, none⟩) 2 c7)).setCell ⟨w.heap.size + 1, 0, none⟩ (.bool true)).heap[D]? = some (.deferred (some [])) := (Below.heap_setCell _ _ _ _ (by show D ≠ w.heap.size + 1; omega)).trans ((Below.heap_setCell _ _ _ _ (by show D ≠ w.heap.size; omega)).trans HK.out)
  have hr2 : ((W.setCell ⟨w.heap.size, 0, none⟩ (.slice (some ⟨g7, 0, none⟩) 2 c7)).setCell ⟨w.heap.size + 1, 0, none⟩ (.bool true)).ownsRow w.heap.size 9 1 (.slice (some ⟨g7, 0, none⟩) 2 c7) 2 [.string nmM, .string nmN] := (HR.out.kept (grownBy_setCell' W w.heap.size _) (.inr (fun e => by have := Boxed.not_row (t := 29) HA.out (by decide) HR.out; exact this e.symm))).kept (grownBy_setCell' _ (w.heap.size + 1) _) (.inr (fun e => by have := Boxed.not_row (t := 4) HB.out (by decide) HR.out; exact this e.symm))
  have hb2 : Below w.heap.size w ((W.setCell ⟨w.heap.size, 0, none⟩ (.slice (some ⟨g7, 0, none⟩) 2 c7)).setCell ⟨w.heap.size + 1, 0, none⟩ (.bool true)) := (HI.out.bl.setCell (p := ⟨w.heap.size, 0, none⟩) (Nat.le_refl _) _).setCell (p := ⟨w.heap.size + 1, 0, none⟩) (Nat.le_succ _) _
  generalize (W.setCell ⟨w.heap.size, 0, none⟩ (.slice (some ⟨g7, 0, none⟩) 2 c7)).setCell ⟨w.heap.size + 1, 0, none⟩ (.bool true) = W2 at *
  refine ⟨by simp, .inl ⟨_, _, rfl, run_takeDeferred hK2, ?_⟩⟩
  have hr3 := ownsRow_putObj hr2 (.deferred none) hK2 rfl
  have hb3 : Below w.heap.size w (W2.putObj D (.deferred none)) := hb2.trans (belowK_b (w := w) (Nat.le_refl _) W2 D _ _ (by omega) hK2 rfl rfl)
  have hA4 : (W2.putObj D (.deferred none)).heap[w.heap.size]? = _ := (World.putObj_heap_other (by omega)).trans hA3
  have hB4 : (W2.putObj D (.deferred none)).heap[w.heap.size + 1]? = _ := (World.putObj_heap_other (by omega)).trans hB3
  generalize W2.putObj D (.deferred none) = W3 at *
  have s0 : W3.cell? ⟨w.heap.size, 0, none⟩ = some (.slice (some ⟨g7, 0, none⟩) 2 c7) := qB hA4 rfl
  have s1 : W3.cell? ⟨w.heap.size + 1, 0, none⟩ = some (.bool true) := qB hB4 rfl
  exact ⟨.tuple #[.slice (some ⟨g7, 0, none⟩) 2 c7, .bool true], by simp [results, Tryz.results185, go_sem, s0, s1], ⟨g7, c7, rfl, hr3⟩, hb3⟩
end Go.Proofs.YtgjmbjahgcndnaaGreatDoor
namespace Go.Proofs.YtgjmbjahgcndnaaGreatDoor
open Go.RowKit
theorem qKR {w : World} {base n size g : Nat} {e : TypeId} {c m : Nat} {xs : List Value} (h : w.ownsRow base e size (.slice (some ⟨g, 0, none⟩) m c) n xs) : n <= c := by
 rcases h.2 with ⟨h0, _⟩ | ⟨g', cap, cur, hv, _, hg, hc, _⟩
 ·cases h0
 ·injection hv with _ _ e3
  subst e3
  exact hc
theorem row_blk9 {w : World} {base g c : Nat} {x y : Value} (h : w.ownsRow base 9 1 (.slice (some ⟨g, 0, none⟩) 2 c) 2 [x, y]) : ∃ cs, w.heap[g]? = some (.cells cs 9 (0, 0)) /\ cs[1]? = some y := by
 rcases h.2 with ⟨h0, _⟩ | ⟨g', cap, cur, hv, _, hg, _, _, _, hx⟩
 ·cases h0
 ·injection hv with e1 _ _
  injection e1 with e1
  injection e1 with e1 _ _
  subst e1
  refine ⟨cur, hg, ?_⟩
  have : (cur.toList.take (2 * 1))[1]? = some y := by rw [hx]; rfl
  rw [List.getElem?_take] at this
  simpa using this
theorem updM (mb : Nat) (v : Value) (W : World) (h : W.heap[mb]? = some (.map #[] 0)) : ∃ W', (Instr.mapUpdate 132 (.map (some mb)) (.string nmM) v).run Tryz.prog W = .ok () W' /\ W'.heap[mb]? = some (.map #[{ key := .string nmM, val := v, born := 0 }] 1) /\ W.grownBy W' (some mb) := by
 refine ⟨ChangeMaps.setBlock W mb (.map #[{ key := .string nmM, val := v, born := 0 }] 1), ?_, ChangeMaps.heap_setBlock_same h _, ⟨rfl, rfl, rfl, by simp [ChangeMaps.setBlock], fun i _ hi => ChangeMaps.heap_setBlock_other h _ (fun e => hi (by rw [e]))⟩⟩
 have hk2 : ∀ b, (Instr.checkKey b 10000 9 (.string nmM)).run Tryz.prog W = .ok () W := by intro b; cases b <;> kernel_rfl
 have hf : (Instr.findKey 9 (.string nmM) []).run Tryz.prog W = .ok none W := by kernel_rfl
 unfold Instr.mapUpdate
 simp [Sem.run_bind, run_underlying Tryz.underlying132, MapKept.run_getObj_map h, MapKept.run_setObj_map _ h, hk2, hf, Result.andThen, ChangeMaps.setBlock]
theorem qBM {w w' : World} {mb i : Nat} {es : Array MapEntry} {ck : Nat} {c : Array Value} {t : TypeId} {z : Nat × Nat} (hg : w.grownBy w' (some mb)) (hm : w.heap[mb]? = some (.map es ck)) (h : w.heap[i]? = some (.cells c t z)) : w'.heap[i]? = some (.cells c t z) := by
 rw [hg.block i (qC h) (fun e => by injection e with e; subst e; rw [hm] at h; cases h)]
 exact h
theorem qDQ {w w' : World} {mb : Nat} {es : Array MapEntry} {ck : Nat} {i j : Nat} {v : Value} (hg : w.grownBy w' (some mb)) (hm : w.heap[mb]? = some (.map es ck)) (h : w.cell? ⟨i, j, none⟩ = some v) : w'.cell? ⟨i, j, none⟩ = some v := by
 have hlt : i < w.heap.size := World.block_lt_of_cell? w _ h
 have e : w'.heap[i]? = w.heap[i]? := hg.block i hlt (fun e => by injection e with e; subst e; simp [World.cell?, hm] at h)
 simpa [World.cell?, e] using h
theorem gr_reads {w w' : World} {mb : Nat} {es : Array MapEntry} {ck : Nat} {v : Value} {ts : List Tk} (hg : w.grownBy w' (some mb)) (hm : w.heap[mb]? = some (.map es ck)) (h : qI w v ts) : qI w' v ts := by
 obtain ⟨ad, cap, rfl, hc, hmx, h⟩ := h
 refine ⟨ad, cap, rfl, hc, hmx, fun h0 => ?_⟩
 obtain ⟨b, o, rfl, hlt, hx⟩ := h h0
 refine ⟨b, o, rfl, Nat.lt_of_lt_of_le hlt hg.size, fun i hi => ?_⟩
 obtain ⟨a1, a2, a3, a4⟩ := hx i hi
 exact ⟨qDQ hg hm a1, qDQ hg hm a2, qDQ hg hm a3, qDQ hg hm a4⟩
theorem qIk (gw mb : Nat) (lv qv : Value) (k : Int) (v0 v1 : Value) (p0 p1 : Int) (x : Tk) (b o c : Nat) (t1 : List Tk) (w : World) (hbx : w.heap[gw]? = some (.cells #[lv, qv, .map (some mb), .int .i64 k] 134 (0, 0))) (hmp : w.heap[mb]? = some (.map #[] 0))
  (h0 : qI w v0 [x, ⟨1, 0, nmM⟩, ⟨1, 0, nmN⟩]) (c0 : w.cell? ⟨b, o, none⟩ = some v1) (c1 : w.cell? ⟨b, o + 1, none⟩ = some (.int .i64 p1)) (h1 : qI w v1 t1) :
  Calls Tryz.prog 149 #[.pointer (some ⟨gw, 0, none⟩), .agg #[v0, .int .i64 p0, .slice (some ⟨b, o, none⟩) 1 c, .slice none 0 0, .int .i64 3]] w fun r w' => r = .returned (.int .i64 0) /\ (∃ pb lb, w'.heap[mb]? = some (.map #[{ key := .string nmM, val := .func (.func 216) #[] #[.pointer (some ⟨pb, 0, none⟩), .pointer (some ⟨lb, 0, none⟩)], born := 0 }] 1) /\ Mcr w' pb lb nmN t1 b o) /\ w.grownBy w' (some mb) := by
 have HBH := Lib.hid fun W (hb : Below w.heap.size w W) => qBn v0 [x, ⟨1, 0, nmM⟩, ⟨1, 0, nmN⟩] W (h0.below hb (Nat.le_refl _))
 have HMC := Lib.hid h1
 have HBX := Lib.hid hbx
 have HMP := Lib.hid hmp
 have C0 := Lib.hid c0
 have C1 := Lib.hid c1
 obtain ⟨ad0, cap0, rfl, _⟩ := h0
 simp only [List.length_cons, List.length_nil] at *
 clear h1 hbx hmp c0 c1
 go_enter Tryz.func149, Tryz.ntmps149
 go_wp2_with fail
 refine (HBH.out _ (qE _ _)).mono ?_
 rintro e w1 ⟨⟨v', rfl, hv'⟩, hb1⟩
 obtain ⟨hB1, hz1, xr⟩ := qS hb1
 replace hv' := hv'.below hb1 (Nat.le_refl _)
 simp only [List.tail_cons] at hv'
 obtain ⟨ad', cap', rfl, _, _, hx'⟩ := id hv'
 obtain ⟨b', o', rfl, _, _⟩ := hx' (by simp)
 have HV := Lib.hid hv'
 have HB1 := Lib.hid hB1
 have XR := Lib.hid xr
 clear hb1 hB1 xr hv' hx' HBH
 simp only [List.length_cons, List.length_nil] at *
 go_wp2_with (first
  | (go_at_call 184; refine (qIj _ ⟨1, 0, nmM⟩ ⟨1, 0, nmN⟩ _ HV.out rfl rfl).mono ?_; rintro e w2 ⟨rfl, hb2⟩; have HV2 := Lib.hid (HV.out.below hb2 (Nat.le_refl _)); have HB2 := Lib.hid (HB1.out.trans (hb2.mono HB1.out.size)); have XR2 := Lib.hid ((hb2.block _ (qC XR.out)).trans XR.out); clear hb2)
  | (go_at_call 185; refine (qKz _ _ _ _ HV2.out).mono ?_; rintro e w3 ⟨⟨g3, c3, rfl, hr3⟩, hb3⟩; have HB3 := Lib.hid (HB2.out.trans (hb3.mono HB2.out.size)); have XR3 := Lib.hid ((hb3.block _ (qC XR2.out)).trans XR2.out); have hc3 := qKR hr3; obtain ⟨c4, rfl⟩ : ∃ c4, c3 = c4 + 2 := ⟨c3 - 2, by omega⟩; clear hc3; have HR3 := Lib.hid hr3; have n0 : w3.cell? ⟨g3, 0, none⟩ = some (.string nmM) := (by simpa [Addr.add] using hr3.cells rfl 0 _ rfl); have n1 : w3.cell? ⟨g3, 1, none⟩ = some (.string nmN) := (by simpa [Addr.add] using hr3.cells rfl 1 _ rfl); have hg3 := qL9 hr3; have x3 := (HB3.out.block _ (qC HBX.out)).trans HBX.out; have d2 : w3.cell? ⟨gw, 2, none⟩ = some (.map (some mb)) := qB x3 rfl; have hgw3 := qC x3; have hmp3 := (HB3.out.block _ (qC HMP.out)).trans HMP.out; have hlk := qGF mb nmM w3.drew hmp3; have HM3 := Lib.hid hmp3; have d3 : w3.cell? ⟨w.heap.size, 2, none⟩ = some (.slice (some ⟨b, o, none⟩) 1 c) := qB XR3.out rfl; have hzw := qC XR3.out; clear hb3 hr3 x3 hmp3)
  | fail)
 go_region
 all_goals go_wp2_with fail
 all_goals
  go_region_with (go_at_call 186; refine (qFF _ _ _ _ _ _ _).mono ?_; rintro e w5 ⟨⟨pb, lb, rfl, hpb, hlb⟩, hb5⟩; have HB35 : Hid (Below w3.heap.size w3 w5) := Below.trans (Below.refl _ _).drew.drew hb5; have e2 := (HB35.out.cell (p := ⟨gw, 2, none⟩) hgw3).trans d2; have e3 := (HB35.out.cell (p := ⟨w.heap.size, 2, none⟩) hzw).trans d3; have hz5 := HB35.out.size; have hgw5 : gw < w5.heap.size := Nat.lt_of_lt_of_le hgw3 hz5; have hzw5 : w.heap.size < w5.heap.size := Nat.lt_of_lt_of_le hzw hz5; have hm5 := (HB35.out.block _ (qC HM3.out)).trans HM3.out; obtain ⟨w6, hup, hm6, hg6⟩ := updM mb (.func (.func 216) #[] #[.pointer (some ⟨pb, 0, none⟩), .pointer (some ⟨lb, 0, none⟩)]) w5 hm5; have HM6 := Lib.hid hm6; have HG6 := Lib.hid hg6; have HPB := Lib.hid hpb; have HLB := Lib.hid hlb; clear hpb hlb hb5 hm5 hm6 hg6)
 all_goals go_wp2_with fail
 all_goals
  have hB5 : Below w.heap.size w w5 := HB3.out.trans (HB35.out.mono HB3.out.size)
  have hG : w.grownBy w6 (some mb) := ⟨HG6.out.os.trans hB5.os, HG6.out.tape.trans hB5.tape, HG6.out.output.trans hB5.output, Nat.le_trans hB5.size HG6.out.size, fun i hi h1 => (HG6.out.block i (Nat.lt_of_lt_of_le hi hB5.size) h1).trans (hB5.block i hi)⟩
  have hm5 := (hB5.block _ (qC HMP.out)).trans HMP.out
  go_returns
  refine ⟨rfl, ⟨pb, lb, HM6.out, g3, 1, c4 + 1, c, v1, p1, qBM HG6.out hm5 HPB.out, (by obtain ⟨cs, q1, q2⟩ := row_blk9 HR3.out; exact ⟨cs, qBM HG6.out hm5 ((HB35.out.block _ hg3).trans q1), q2⟩), qBM HG6.out hm5 HLB.out, qDQ hG HMP.out C0.out, qDQ hG HMP.out C1.out, gr_reads hG HMP.out HMC.out⟩, hG⟩
theorem qL2 (gw mb : Nat) (lv qv : Value) (k : Int) (v0 v1 : Value) (p0 p1 d : Int) (x : Tk) (b o c : Nat) (t1 : List Tk) (w : World) (hbx : w.heap[gw]? = some (.cells #[lv, qv, .map (some mb), .int .i64 k] 134 (0, 0))) (hmp : w.heap[mb]? = some (.map #[] 0))
  (h0 : qI w v0 [x, ⟨1, 0, nmM⟩, ⟨1, 0, nmN⟩]) (c0 : w.cell? ⟨b, o, none⟩ = some v1) (c1 : w.cell? ⟨b, o + 1, none⟩ = some (.int .i64 p1)) (h1 : qI w v1 t1) :
  Calls Tryz.prog 120 #[.pointer (some ⟨gw, 0, none⟩), .string qDn, .agg #[v0, .int .i64 p0, .slice (some ⟨b, o, none⟩) 1 c, .slice none 0 0, .int .i64 3], .int .i64 d] w fun r w' => r = .returned (.agg #[.int .i64 0, .int .i64 0]) /\ (∃ pb lb, w'.heap[mb]? = some (.map #[{ key := .string nmM, val := .func (.func 216) #[] #[.pointer (some ⟨pb, 0, none⟩), .pointer (some ⟨lb, 0, none⟩)], born := 0 }] 1) /\ Mcr w' pb lb nmN t1 b o) /\ w.grownBy w' (some mb) := by
 have HD := Lib.hid fun W (hb : Below w.heap.size w W) => qIk gw mb lv qv k v0 v1 p0 p1 x b o c t1 W ((hb.block _ (qC hbx)).trans hbx) ((hb.block _ (qC hmp)).trans hmp) (h0.below hb (Nat.le_refl _)) ((hb.cell (World.block_lt_of_cell? w _ c0)).trans c0) ((hb.cell (World.block_lt_of_cell? w _ c1)).trans c1) (h1.below hb (Nat.le_refl _))
 have HMP := Lib.hid hmp
 obtain ⟨ad0, cap0, rfl, _⟩ := h0
 have HF := Lib.hid fun W => qEE (.slice ad0 3 cap0) p0 0 W
 simp only [if_true] at HF
 simp only [List.length_cons, List.length_nil, Nat.zero_add] at *
 clear hbx hmp c0 c1 h1
 unfold qDn at *
 go_enter Tryz.func120, Tryz.ntmps120
 go_wp2_with fail
 have hB3 : Below w.heap.size w ((w.alloc (.cells #[.slice ad0 3 cap0, .int .i64 p0, .slice (some ⟨b, o, none⟩) 1 c, .slice none 0 0, .int .i64 3] 216)).alloc (.cells #[.int .i64 0, .int .i64 0] 36)) := by go_grown
 have x3 : ((w.alloc (.cells #[.slice ad0 3 cap0, .int .i64 p0, .slice (some ⟨b, o, none⟩) 1 c, .slice none 0 0, .int .i64 3] 216)).alloc (.cells #[.int .i64 0, .int .i64 0] 36)).heap[w.heap.size]? = some (.cells #[.slice ad0 3 cap0, .int .i64 p0, .slice (some ⟨b, o, none⟩) 1 c, .slice none 0 0, .int .i64 3] 216 (0, 0)) := by
  rw [old2 _ _ (by go_size)]
  exact qH _ _ rfl
 have y3 : ((w.alloc (.cells #[.slice ad0 3 cap0, .int .i64 p0, .slice (some ⟨b, o, none⟩) 1 c, .slice none 0 0, .int .i64 3] 216)).alloc (.cells #[.int .i64 0, .int .i64 0] 36)).heap[w.heap.size + 1]? = some (.cells #[.int .i64 0, .int .i64 0] 36 (0, 0)) := qH _ _ (by go_size)
 generalize (w.alloc (.cells #[.slice ad0 3 cap0, .int .i64 p0, .slice (some ⟨b, o, none⟩) 1 c, .slice none 0 0, .int .i64 3] 216)).alloc (.cells #[.int .i64 0, .int .i64 0] 36) = W3 at *
 have d0 : W3.cell? ⟨w.heap.size, 0, none⟩ = some (.slice ad0 3 cap0) := qB x3 rfl
 have d1 : W3.cell? ⟨w.heap.size, 1, none⟩ = some (.int .i64 p0) := qB x3 rfl
 have d2 : W3.cell? ⟨w.heap.size, 2, none⟩ = some (.slice (some ⟨b, o, none⟩) 1 c) := qB x3 rfl
 have d3 : W3.cell? ⟨w.heap.size, 3, none⟩ = some (.slice none 0 0) := qB x3 rfl
 have d4 : W3.cell? ⟨w.heap.size, 4, none⟩ = some (.int .i64 3) := qB x3 rfl
 have hz3 := qC x3
 have HB3 := Lib.hid hB3
 have X3 := Lib.hid x3
 have Y3 := Lib.hid y3
 have HM3 := Lib.hid ((hB3.block _ (qC HMP.out)).trans HMP.out)
 clear hB3 x3 y3
 go_region_with (first
  | (go_at_call 149; refine (HD.out _ HB3.out.drew).mono ?_; rintro e w4 ⟨rfl, hmd, hg4⟩; have x4 := qBM hg4 HM3.out X3.out; have y4 := qBM hg4 HM3.out Y3.out; have q0 : w4.cell? ⟨w.heap.size, 0, none⟩ = some (.slice ad0 3 cap0) := qB x4 rfl; have q1 : w4.cell? ⟨w.heap.size, 1, none⟩ = some (.int .i64 p0) := qB x4 rfl; have hz4 := qC x4; have HMD := Lib.hid hmd; have HG4 := Lib.hid hg4; have Y4 := Lib.hid y4; clear hmd hg4 x4 y4)
  | (go_at_call 87; refine (HF.out _).mono ?_; rintro e w5 ⟨rfl, hb5⟩; have y5 := (hb5.block _ (qC Y4.out)).trans Y4.out; obtain ⟨⟨u0, u1⟩, f0, f1⟩ := qo y5; have hz5 := qC y5; have HB5 := Lib.hid hb5; have Y5 := Lib.hid y5; clear hb5 y5))
 all_goals go_wp2_with fail
 all_goals
  have hsame : Below w5.heap.size w5 ((w5.setCell ⟨w.heap.size + 1, 0, none⟩ (.int .i64 0)).setCell ⟨w.heap.size + 1, 1, none⟩ (.int .i64 0)) := (qX Y5.out rfl).trans (qX (qAj Y5.out rfl) rfl)
  have hb46 := HB5.out.trans (hsame.mono HB5.out.size)
  refine bodyPost_ret (v := .agg #[.int .i64 0, .int .i64 0]) (by simp [results, Tryz.results120, go_sem, u0, u1]) rfl ⟨rfl, ?_, ?_⟩
  ·obtain ⟨pb, lb, m1, m2⟩ := HMD.out
   exact ⟨pb, lb, (hb46.block _ (qC m1)).trans m1, m2.go hb46⟩
  ·have hz : w.heap.size <= w4.heap.size := Nat.le_trans HB3.out.size HG4.out.size
   exact ⟨hb46.os.trans (HG4.out.os.trans HB3.out.os), hb46.tape.trans (HG4.out.tape.trans HB3.out.tape), hb46.output.trans (HG4.out.output.trans HB3.out.output), Nat.le_trans hz hb46.size, fun i hi h1 => (hb46.block i (Nat.lt_of_lt_of_le hi hz)).trans ((HG4.out.block i (Nat.lt_of_lt_of_le hi HB3.out.size) h1).trans (HB3.out.block i hi))⟩
theorem step_mac (gw mb : Nat) (lv qv : Value) (k : Int) (b o n cap : Nat) (v0 v1 v2 : Value) (p0 p1 p2 d : Int) (x x2 : Tk) (t1 : List Tk) (w : World) (hbx : w.heap[gw]? = some (.cells #[lv, qv, .map (some mb), .int .i64 k] 134 (0, 0))) (hmp : w.heap[mb]? = some (.map #[] 0))
  (hV : L3 w b o v0 v1 v2 p0 p1 p2 [x, ⟨1, 0, nmM⟩, ⟨1, 0, nmN⟩] t1 [x2]) (hn : n + 3 <= 1000) (hc : n + 3 <= cap) (hcm : cap <= maxLen) (h0 : qA0 [x, ⟨1, 0, nmM⟩, ⟨1, 0, nmN⟩] = qDn) (h1 : qZ (qA0 t1)) (h2 : qA0 [x2] = qDY) :
  Calls Tryz.prog 88 #[.pointer (some ⟨gw, 0, none⟩), .slice (some ⟨b, o, none⟩) (n + 3) cap, .int .i64 d] w fun r w' => r = .returned (.tuple #[.int .i64 3, .agg #[.int .i64 0, .int .i64 0]]) /\ (∃ pb lb, w'.heap[mb]? = some (.map #[{ key := .string nmM, val := .func (.func 216) #[] #[.pointer (some ⟨pb, 0, none⟩), .pointer (some ⟨lb, 0, none⟩)], born := 0 }] 1) /\ Mcr w' pb lb nmN t1 b (o + 2)) /\ w.grownBy w' (some mb) := by
 have HH := Lib.hid fun W (hb : Below w.heap.size w W) => qBx v0 [x, ⟨1, 0, nmM⟩, ⟨1, 0, nmN⟩] W (hV.r0.below hb (Nat.le_refl _))
 have HCU := Lib.hid fun W (hb : Below w.heap.size w W) => cut_mac b o n cap v0 v1 v2 p0 p1 p2 [x, ⟨1, 0, nmM⟩, ⟨1, 0, nmN⟩] t1 x2 W (hV.go hb) hn hc hcm h0 h1 h2
 obtain ⟨a0, n0, k0, rfl⟩ := hV.s0
 have HBL := Lib.hid fun W (hb : Below w.heap.size w W) => qL2 gw mb lv qv k (.slice a0 n0 k0) v1 p0 p1 d x b (o + 2) (cap - 1) t1 W ((hb.block _ (qC hbx)).trans hbx) ((hb.block _ (qC hmp)).trans hmp) (hV.r0.below hb (Nat.le_refl _)) (hV.go hb).c1 (hV.go hb).d1 (hV.go hb).r1
 have HMP := Lib.hid hmp
 have hlt := hV.lt
 have c0 := hV.c0
 have d0 := hV.d0
 rw [h0] at HH
 generalize cap - 1 = c at HCU HBL
 clear hbx hmp h0 h1 h2 hV
 unfold qDn at *
 go_enter Tryz.func88, Tryz.ntmps88
 go_wp2_with fail
 refine (HH.out _ (by go_grown)).mono ?_
 rintro e w1 ⟨rfl, hb1⟩
 have HB1 : Hid (Below w.heap.size w w1) := by
  refine Below.trans ?_ (hb1.mono (by go_size))
  go_grown
 have x0 : w1.heap[w.heap.size]? = some (.cells #[.int .i64 0, .int .i64 0] 36 (0, 0)) := by
  rw [hb1.block _ (by go_size), old2 _ _ (by go_size)]
  exact qH _ _ (by go_size)
 have X0 := Lib.hid x0
 clear hb1 x0 HH c0 d0
 go_wp2_with fail
 refine (HCU.out _ HB1.out).mono ?_
 rintro e w2 ⟨rfl, hb2⟩
 have HB2 := Lib.hid (HB1.out.trans (hb2.mono HB1.out.size))
 have X2 := Lib.hid ((hb2.block _ (qC X0.out)).trans X0.out)
 clear hb2 HB1 X0 HCU
 go_wp2_with fail
 have hB3 : Below w.heap.size w ((w2.alloc (.cells #[.slice a0 n0 k0, .int .i64 p0, .slice (some ⟨b, o + 2, none⟩) 1 c, .slice none 0 0, .int .i64 3] 216)).alloc (.cells #[.int .i64 0, .int .i64 0] 36)) := (HB2.out.alloc HB2.out.size _).alloc (Nat.le_trans HB2.out.size (by simp)) _
 have x3 : ((w2.alloc (.cells #[.slice a0 n0 k0, .int .i64 p0, .slice (some ⟨b, o + 2, none⟩) 1 c, .slice none 0 0, .int .i64 3] 216)).alloc (.cells #[.int .i64 0, .int .i64 0] 36)).heap[w2.heap.size]? = some (.cells #[.slice a0 n0 k0, .int .i64 p0, .slice (some ⟨b, o + 2, none⟩) 1 c, .slice none 0 0, .int .i64 3] 216 (0, 0)) := by
  rw [old2 _ _ (by simp)]
  exact qH _ _ rfl
 have y3 : ((w2.alloc (.cells #[.slice a0 n0 k0, .int .i64 p0, .slice (some ⟨b, o + 2, none⟩) 1 c, .slice none 0 0, .int .i64 3] 216)).alloc (.cells #[.int .i64 0, .int .i64 0] 36)).heap[w.heap.size]? = some (.cells #[.int .i64 0, .int .i64 0] 36 (0, 0)) := by
  have hz := qC X2.out
  rw [old2 _ _ (by simp; omega), old2 _ _ hz]
  exact X2.out
 generalize (w2.alloc (.cells #[.slice a0 n0 k0, .int .i64 p0, .slice (some ⟨b, o + 2, none⟩) 1 c, .slice none 0 0, .int .i64 3] 216)).alloc (.cells #[.int .i64 0, .int .i64 0] 36) = W3 at *
 generalize w2.heap.size = g2 at *
 have d0 : W3.cell? ⟨g2, 0, none⟩ = some (.slice a0 n0 k0) := qB x3 rfl
 have d1 : W3.cell? ⟨g2, 1, none⟩ = some (.int .i64 p0) := qB x3 rfl
 have d2 : W3.cell? ⟨g2, 2, none⟩ = some (.slice (some ⟨b, o + 2, none⟩) 1 c) := qB x3 rfl
 have d3 : W3.cell? ⟨g2, 3, none⟩ = some (.slice none 0 0) := qB x3 rfl
 have d4 : W3.cell? ⟨g2, 4, none⟩ = some (.int .i64 3) := qB x3 rfl
 have hz3 := qC x3
 have HB3 := Lib.hid hB3
 have X3 := Lib.hid x3
 have Y3 := Lib.hid y3
 have HM3 := Lib.hid ((hB3.block _ (qC HMP.out)).trans HMP.out)
 clear HB2 X2 hB3 x3 y3
 go_region_with (go_at_call 120; refine (HBL.out _ HB3.out.drew).mono ?_; rintro e w4 ⟨rfl, hmd, hg4⟩; have x4 := qBM hg4 HM3.out X3.out; have y4 := qBM hg4 HM3.out Y3.out; have q4 : w4.cell? ⟨g2, 4, none⟩ = some (.int .i64 3) := qB x4 rfl; have hz4 := qC x4; obtain ⟨⟨u0, u1⟩, f0, f1⟩ := qo y4; have hz5 := qC y4; have HMD := Lib.hid hmd; have HG4 := Lib.hid hg4; have Y4 := Lib.hid y4; clear hmd hg4 x4 y4)
 all_goals
  go_wp2
  have hsame : Below w4.heap.size w4 ((w4.setCell ⟨w.heap.size, 0, none⟩ (.int .i64 0)).setCell ⟨w.heap.size, 1, none⟩ (.int .i64 0)) := (qX Y4.out rfl).trans (qX (qAj Y4.out rfl) rfl)
  refine bodyPost_ret (v := .tuple #[.int .i64 3, .agg #[.int .i64 0, .int .i64 0]]) (by simp [results, Tryz.results88, go_sem, u0, u1]) rfl ⟨rfl, ?_, ?_⟩
  ·obtain ⟨pb, lb, m1, m2⟩ := HMD.out
   exact ⟨pb, lb, (hsame.block _ (qC m1)).trans m1, m2.go hsame⟩
  ·have hz : w.heap.size <= w4.heap.size := Nat.le_trans HB3.out.size HG4.out.size
   exact ⟨hsame.os.trans (HG4.out.os.trans HB3.out.os), hsame.tape.trans (HG4.out.tape.trans HB3.out.tape), hsame.output.trans (HG4.out.output.trans HB3.out.output), Nat.le_trans hz hsame.size, fun i hi h1 => (hsame.block i (Nat.lt_of_lt_of_le hi hz)).trans ((HG4.out.block i (Nat.lt_of_lt_of_le hi HB3.out.size) h1).trans (HB3.out.block i hi))⟩
def mcE (pb lb : Nat) : Array MapEntry := #[{ key := .string nmM, val := .func (.func 216) #[] #[.pointer (some ⟨pb, 0, none⟩), .pointer (some ⟨lb, 0, none⟩)], born := 0 }]
theorem lookM (mb pb lb : Nat) (w : World) (h : w.heap[mb]? = some (.map (mcE pb lb) 1)) : (Instr.lookup 132 (.map (some mb)) (.string nmM) true).run Tryz.prog w = .ok (.tuple #[.func (.func 216) #[] #[.pointer (some ⟨pb, 0, none⟩), .pointer (some ⟨lb, 0, none⟩)], .bool true]) w := by
 have hu : (underlying 132).run Tryz.prog w = .ok (.map 9 222) w := by kernel_rfl
 have hg : (getObj mb).run Tryz.prog w = .ok (.map (mcE pb lb) 1) w := by simp [getObj, Sem.run, h]
 have hk : ∀ b, (Instr.checkKey b 10000 9 (.string nmM)).run Tryz.prog w = .ok () w := by intro b; cases b <;> kernel_rfl
 have hf : (Instr.findKey 9 (.string nmM) (mcE pb lb).toList).run Tryz.prog w = .ok (some (0, .func (.func 216) #[] #[.pointer (some ⟨pb, 0, none⟩), .pointer (some ⟨lb, 0, none⟩)])) w := by kernel_rfl
 unfold Instr.lookup
 simp only [Sem.run_bind, hu, hg, hk, hf, Result.andThen_ok, Sem.run_pure]
 rfl
theorem lookN (mb pb lb : Nat) (s : ByteArray) (hs : (s == nmM) = false) (w : World) (h : w.heap[mb]? = some (.map (mcE pb lb) 1)) : (Instr.lookup 132 (.map (some mb)) (.string s) true).run Tryz.prog w = .ok (.tuple #[.nilFunc, .bool false]) w := by
 have hz : (zeroValue 222).run Tryz.prog w = .ok .nilFunc w := by kernel_rfl
 have hu : (underlying 132).run Tryz.prog w = .ok (.map 9 222) w := by kernel_rfl
 have hg : (getObj mb).run Tryz.prog w = .ok (.map (mcE pb lb) 1) w := by simp [getObj, Sem.run, h]
 have hk : ∀ b, (Instr.checkKey b 10000 9 (.string s)).run Tryz.prog w = .ok () w := by intro b; cases b <;> kernel_rfl
 have hf : (Instr.findKey 9 (.string s) (mcE pb lb).toList).run Tryz.prog w = .ok none w := by
  unfold mcE Instr.findKey
  simp [Instr.findNow, Instr.sameNow, hs]
 unfold Instr.lookup
 simp only [Sem.run_bind, hu, hg, hk, hf, hz, Result.andThen_ok, Sem.run_pure]
 rfl
theorem head_x (v : Value) (x : Tk) (r : List Pc) (w : World) (h : qY w v (pc x :: r)) (hx : x.k = 1) :
  Calls Tryz.prog 118 #[v] w fun e w' => e = .returned (.string x.t) /\ Below w.heap.size w w' := by
 obtain ⟨ad, cap, rfl, hc, hm, h⟩ := h
 obtain ⟨b, o, rfl, hlt, hcell⟩ := h (by simp)
 have c := hcell 0 (by simp)
 simp only [Nat.zero_mul, Nat.add_zero, List.getElem_cons_zero, pc] at c
 have := qFc b o r.length cap x.k x.n x.t w hlt c.1 c.2.1 c.2.2.1 c.2.2.2
 rwa [if_pos hx] at this
theorem own_k {w w' : World} {base n size : Nat} {e : TypeId} {v : Value} {xs : List Value} (h : w.ownsRow base e size v n xs) (hk : KT w w') (h1 : e ≠ 145) (h2 : e ≠ 134) : w'.ownsRow base e size v n xs := by
 refine ⟨h.1, ?_⟩
 rcases h.2 with h | ⟨g, cap, cur, rfl, hg, hcur, rest⟩
 ·exact Or.inl h
 ·exact Or.inr ⟨g, cap, cur, rfl, hg, hk _ _ _ _ hcur h1 h2, rest⟩
theorem InT.kt {W W' : World} {B q : Nat} {ts : List Tk} (h : InT W B q ts) (hk : KT W W') : InT W' B q ts := by
 obtain ⟨c, gl, v, wv, h1, h2, h3⟩ := h.ex
 exact ⟨c, gl, v, wv, hk _ _ _ _ h1 (by decide) (by decide), hk _ _ _ _ h2 (by decide) (by decide), own_k h3 hk (by decide) (by decide)⟩
theorem KT.ofM {w w' : World} {B gw mb : Nat} {lv : Value} {es : Array MapEntry} {ck : Nat} {k : Int} {ps : List (Value × Int)} (h : WM w B gw lv mb es ck k ps) (ho : ∀ i, i < w.heap.size -> i ≠ gw -> some i ≠ lv.ownBlock -> w'.heap[i]? = w.heap[i]?) : KT w w' := fun i c t f hi h1 h2 => by
 rw [ho i (qC hi) (by rintro rfl; rw [h.box] at hi; injection hi with hi; injection hi with _ e; exact h2 e.symm) (qAY h.row hi h1)]
 exact hi
theorem do_line (gw mb : Nat) (lv : Value) (k : Int) (ps : List (Value × Int)) (pb lb : Nat) (l : List Pc) (y : Tk) (v : Value) (p d : Int) (g c base base2 : Nat) (w : World) (B : Nat) (hB : B <= w.heap.size) (h : WM w B gw lv mb (mcE pb lb) 1 k ps) (hl : ps.length < 200) (hk0 : 0 <= k) (hk : k + 1 <= 4000) (hd0 : 0 <= d) (hd : d <= 6)
  (hl5 : l.length = 5) (hy : ∃ r, l = pc y :: r) (hyk : y.k = 1) (hyp : qZ y.t) (hys : (y.t == nmM) = false) (hrow : w.ownsRow base2 180 4 v 5 (pcCs l)) (hln : w.ownsRow base 145 2 (.slice (some ⟨g, 0, none⟩) 1 c) 1 [v, .int .i64 p]) (hgb : gw < base) :
  Calls Tryz.prog 68 #[.pointer (some ⟨gw, 0, none⟩), .slice (some ⟨g, 0, none⟩) 1 c, .int .i64 d] w fun r w' => r = .returned (.agg #[.int .i64 0, .int .i64 0]) /\ (∃ lv', WM w' B gw lv' mb (mcE pb lb) 1 (k + 1) (ps ++ [(v, p)])) /\ Fr gw B w w' /\ (∀ i, i < w.heap.size -> i ≠ gw -> some i ≠ lv.ownBlock -> w'.heap[i]? = w.heap[i]?) := by
 obtain ⟨va, vc, rfl⟩ := qG hrow
 have hg := qL9 hln
 have hgg : g ≠ gw := by
  obtain ⟨_, _, e, h2, _⟩ := qDN hln
  injection e with e _ _
  injection e with e
  injection e with e _ _
  omega
 have e0 : w.cell? ⟨g, 0, none⟩ = some (.slice va 5 vc) := by simpa [Addr.add] using hln.cells rfl 0 _ rfl
 have e1 : w.cell? ⟨g, 0 + 1, none⟩ = some (.int .i64 p) := by simpa [Addr.add] using hln.cells rfl 1 _ rfl
 have hcap := qKR hln
 have hmax : c <= maxLen := by
  rcases hln.2 with ⟨h0, _⟩ | ⟨g', cap, cur, hv, _, _, _, hm, _⟩
  ·cases h0
  ·injection hv with _ _ e3
   subst e3
   exact hm
 have := do_gs gw mb k g 0 c [⟨1, 1, []⟩] d w
  (fun j W => if j = 0 then WM W B gw lv mb (mcE pb lb) 1 k ps /\ Below w.heap.size w W else (∃ lv', WM W B gw lv' mb (mcE pb lb) 1 (k + 1) (ps ++ [(.slice va 5 vc, p)])) /\ Fr gw B w W /\ (∀ i, i < w.heap.size -> i ≠ gw -> some i ≠ lv.ownBlock -> W.heap[i]? = w.heap[i]?))
  (fun j W => if j = 0 then WM W B gw lv mb (mcE pb lb) 1 (k + 1) ps /\ w.grownBy W (some gw) else True)
  ⟨h, Below.refl _ _⟩ hd0 hd hk0 (by simpa [qAp] using hk) (by simpa [posC] using hcap) hmax (by simp) hg ?_ ?_ ?_ ?_
 ·simpa [posC] using this.mono fun r w' hr => ⟨hr.1, by simpa using hr.2.1⟩
 ·intro j W hs
  by_cases hj : j = 0
  ·subst hj
   rw [if_pos rfl] at hs
   exact ⟨lv, _, by simpa [qAp] using hs.1.box⟩
  ·rw [if_neg hj] at hs
   obtain ⟨⟨lv', h1⟩, _⟩ := hs
   obtain ⟨j, rfl⟩ : ∃ i, j = i + 1 := ⟨j - 1, by omega⟩
   exact ⟨lv', _, by simpa [qAp] using h1.box⟩
 ·intro j W hs
  by_cases hj : j = 0
  ·subst hj
   rw [if_pos rfl] at hs ⊢
   refine ⟨by simpa [qAp] using hs.1.look (k + 1), hs.2.os, hs.2.tape, hs.2.output, by simpa using hs.2.size, fun i hi h1 => ?_⟩
   rw [Below.heap_setCell _ _ _ _ (fun e => h1 (by rw [e]))]
   exact hs.2.block i hi
  ·rw [if_neg hj]
   trivial
 ·intro j W W' hs hb
  by_cases hj : j = 0
  ·subst hj
   rw [if_pos rfl] at hs ⊢
   exact ⟨hs.1.go hb, hs.2.trans (hb.mono hs.2.size)⟩
  ·rw [if_neg hj] at hs ⊢
   obtain ⟨⟨lv', h1⟩, h2, h3⟩ := hs
   exact ⟨⟨lv', h1.go hb⟩, h2.trans (Fr.below (hb.mono (Nat.le_trans hB h2.size))), fun i hi g1 g2 => (hb.block i (Nat.lt_of_lt_of_le hi h2.size)).trans (h3 i hi g1 g2)⟩
 ·intro j hj W ht hgz
  obtain rfl : j = 0 := by simpa using hj
  rw [if_pos rfl] at ht
  obtain ⟨ht, hgr⟩ := ht
  have c0 : W.cell? ⟨g, 0, none⟩ = some (.slice va 5 vc) := by
   have e : W.heap[g]? = w.heap[g]? := hgr.block g hg (fun e => hgg (by injection e with e))
   simpa [World.cell?, e] using e0
  have c1 : W.cell? ⟨g, 0 + 1, none⟩ = some (.int .i64 p) := by
   have e : W.heap[g]? = w.heap[g]? := hgr.block g hg (fun e => hgg (by injection e with e))
   simpa [World.cell?, e] using e1
  have hrw := hrow.kept hgr (.inr (fun e => qAY hrow h.box (by decide) e.symm))
  obtain ⟨r, rfl⟩ := hy
  have hxr := qD7 (l := pc y :: r) (by rw [hl5]; exact hrw)
  have := step_m gw mb lv (mcE pb lb) 1 (k + 1) ps g 0 0 c va 5 vc p d y.t W B (Nat.le_trans hB hgr.size) ht hl c0 c1 hgz (fun W' hb => head_x _ y r W' (hxr.below hb (Nat.le_refl _)) hyk) hyp (fun W' hm' => lookN mb pb lb y.t hys W' hm')
  refine this.mono ?_
  rintro r' w' ⟨rfl, k1, k2, k3⟩
  refine ⟨rfl, ⟨k1, ?_, fun i hi g1 g2 => (k3 i (Nat.lt_of_lt_of_le hi hgr.size) g1 g2).trans (hgr.block i hi (fun e => g1 (by injection e with e)))⟩, fun i c t f hi h1 h2 => ?_, k2.size⟩
  ·exact (Fr.trans ⟨hgr.os, hgr.tape, hgr.output, hgr.size, fun i hi h1 => hgr.block i (Nat.lt_of_lt_of_le hi hB) (fun e => h1 (by injection e with e))⟩ k2)
  ·rw [k3 i (qC hi) (by rintro rfl; rw [ht.box] at hi; injection hi with hi; injection hi with _ e; exact h2 e.symm) (qAY ht.row hi h1)]
   exact hi
theorem call_mac (gw mb lg lo : Nat) (lv : Value) (k : Int) (ps : List (Value × Int)) (pb lb : Nat) (t1 : List Tk) (y : Tk) (v : Value) (p d : Int) (x : Tk) (ts : List Tk) (w : World) (B : Nat) (hB : B <= w.heap.size) (h : WM w B gw lv mb (mcE pb lb) 1 k ps) (hl : ps.length < 200) (hk0 : 0 <= k) (hk : k + 1 <= 4000) (hd0 : 0 <= d) (hd : d <= 5)
  (hm : Mcr w pb lb nmN t1 lg lo) (ht1 : t1.length = 5) (hy : ∃ r, t1 = y :: r) (hyk : y.k = 1) (hyn : isNm nmN y = false) (hyp : qZ y.t) (hys : (y.t == nmM) = false) (hv : qI w v (x :: ts)) (h0 : 0 < ts.length) (hn : ts.length <= 64) (hpc : qAu ts = [ts]) :
  Calls Tryz.prog 123 #[.pointer (some ⟨gw, 0, none⟩), .func (.func 216) #[] #[.pointer (some ⟨pb, 0, none⟩), .pointer (some ⟨lb, 0, none⟩)], .agg #[v, .int .i64 p], .int .i64 d] w fun r w' => r = .returned (.agg #[.int .i64 0, .int .i64 0]) /\ (∃ lv' v' q, WM w' B gw lv' mb (mcE pb lb) 1 (k + 1) (ps ++ [(v', p)]) /\ (∃ base, w'.ownsRow base 180 4 v' 5 (pcCs (t1.map (toN nmN q)))) /\ ∃ base, InT w' base q ts) /\ Fr gw B w w' /\ (∀ i, i < w.heap.size -> i ≠ gw -> some i ≠ lv.ownBlock -> w'.heap[i]? = w.heap[i]?) := by
 have HMD := Lib.hid fun W (hb : Below w.heap.size w W) => made_one pb lb lg lo nmN t1 v p x ts W (hm.go hb) ht1 (hv.below hb (Nat.le_refl _)) h0 hn hpc
 have HW := Lib.hid h
 obtain ⟨ad, cap, rfl, _⟩ := hv
 clear h hm
 go_enter Tryz.func123, Tryz.ntmps123
 go_wp2_with fail
 have hB0 : Below w.heap.size w ((w.alloc (.cells #[.slice ad (ts.length + 1) cap, .int .i64 p] 145)).alloc (.cells #[.int .i64 0, .int .i64 0] 36)) := by go_grown
 have y0 : ((w.alloc (.cells #[.slice ad (ts.length + 1) cap, .int .i64 p] 145)).alloc (.cells #[.int .i64 0, .int .i64 0] 36)).heap[w.heap.size + 1]? = some (.cells #[.int .i64 0, .int .i64 0] 36 (0, 0)) := qH _ _ (by go_size)
 generalize (w.alloc (.cells #[.slice ad (ts.length + 1) cap, .int .i64 p] 145)).alloc (.cells #[.int .i64 0, .int .i64 0] 36) = W0 at *
 refine (HMD.out _ hB0).mono ?_
 rintro e w2 ⟨⟨g, c, v', q, rfl, hln, ⟨base2, hrow⟩, base3, hin⟩, hb2⟩
 have HB2 : Hid (Below w.heap.size w w2) := hB0.trans (hb2.mono hB0.size)
 have Y2 := Lib.hid ((hb2.block _ (qC y0)).trans y0)
 have HW2 := Lib.hid (HW.out.go HB2.out)
 have hgw := HW.out.lt
 have hgwb : gw < W0.heap.size := by have := hB0.size; omega
 have HDO := Lib.hid fun W (hb : Below w2.heap.size w2 W) => do_line gw mb lv k ps pb lb (t1.map (toN nmN q)) y v' p (d + 1) g c W0.heap.size base2 W B (Nat.le_trans hB (Nat.le_trans HB2.out.size hb.size)) (HW2.out.go hb) hl hk0 hk (by omega) (by omega) (by rw [List.length_map]; exact ht1) (by
  obtain ⟨r, rfl⟩ := hy
  exact ⟨r.map (toN nmN q), by simp [toN, hyn]⟩) hyk hyp hys (ownU hrow hb) (ownU hln hb) hgwb
 have HRW := Lib.hid hrow
 have HIN := Lib.hid hin
 clear hb2 y0 hln hrow hin HMD hB0
 go_wp2_with fail
 refine (HDO.out _ (Below.refl _ _)).mono ?_
 rintro e w3 ⟨rfl, ⟨lv', hw3⟩, hf3, ho3⟩
 have hk3 := KT.ofM HW2.out ho3
 have y3 := hk3 _ _ _ _ Y2.out (by decide) (by decide)
 obtain ⟨⟨u0, u1⟩, f0, f1⟩ := qo y3
 have hz3 := qC y3
 have HW3 := Lib.hid hw3
 have HF3 := Lib.hid hf3
 have HO3 := Lib.hid ho3
 have Y3 := Lib.hid y3
 have HK3 := Lib.hid hk3
 clear hw3 hf3 ho3 y3 hk3 HDO
 go_wp2_with fail
 have hsame : Below w3.heap.size w3 ((w3.setCell ⟨w.heap.size + 1, 0, none⟩ (.int .i64 0)).setCell ⟨w.heap.size + 1, 1, none⟩ (.int .i64 0)) := (qX Y3.out rfl).trans (qX (qAj Y3.out rfl) rfl)
 refine bodyPost_ret (v := .agg #[.int .i64 0, .int .i64 0]) (by simp [results, Tryz.results123, go_sem, u0, u1]) rfl ⟨rfl, ⟨lv', v', q, HW3.out.go hsame, ⟨base2, ownU (own_k HRW.out HK3.out (by decide) (by decide)) hsame⟩, base3, (HIN.out.kt HK3.out).go hsame⟩, ?_, ?_⟩
 ·exact ((Fr.below (HB2.out.mono hB)).trans HF3.out).trans (Fr.below (hsame.mono (Nat.le_trans hB (Nat.le_trans HB2.out.size HF3.out.size))))
 ·intro i hi h1 h2
  have hi2 := Nat.lt_of_lt_of_le hi HB2.out.size
  exact (hsame.block i (Nat.lt_of_lt_of_le hi2 HF3.out.size)).trans ((HO3.out i hi2 h1 h2).trans (HB2.out.block i hi))
theorem qLz (gw mb lg lo : Nat) (lv : Value) (k : Int) (ps : List (Value × Int)) (pb lb : Nat) (t1 : List Tk) (y : Tk) (b o n cap : Nat) (ad : Option Addr) (lcap : Nat) (p d : Int) (x : Tk) (ts : List Tk) (w : World) (B : Nat) (hB : B <= w.heap.size) (h : WM w B gw lv mb (mcE pb lb) 1 k ps) (hl : ps.length < 200) (hk0 : 0 <= k) (hk : k + 1 <= 4000) (hd0 : 0 <= d) (hd : d <= 5)
  (c0 : w.cell? ⟨b, o, none⟩ = some (.slice ad (ts.length + 1) lcap)) (c1 : w.cell? ⟨b, o + 1, none⟩ = some (.int .i64 p)) (hb : b < w.heap.size)
  (hm : Mcr w pb lb nmN t1 lg lo) (ht1 : t1.length = 5) (hy : ∃ r, t1 = y :: r) (hyk : y.k = 1) (hyn : isNm nmN y = false) (hyp : qZ y.t) (hys : (y.t == nmM) = false) (hv : qI w (.slice ad (ts.length + 1) lcap) (x :: ts)) (hhd : qA0 (x :: ts) = nmM) (hp : qZ nmM) (h0 : 0 < ts.length) (hn : ts.length <= 64) (hpc : qAu ts = [ts]) :
  Calls Tryz.prog 88 #[.pointer (some ⟨gw, 0, none⟩), .slice (some ⟨b, o, none⟩) (n + 1) cap, .int .i64 d] w fun r w' => r = .returned (.tuple #[.int .i64 1, .agg #[.int .i64 0, .int .i64 0]]) /\ (∃ lv' v' q, WM w' B gw lv' mb (mcE pb lb) 1 (k + 1) (ps ++ [(v', p)]) /\ (∃ base, w'.ownsRow base 180 4 v' 5 (pcCs (t1.map (toN nmN q)))) /\ ∃ base, InT w' base q ts) /\ Fr gw B w w' /\ (∀ i, i < w.heap.size -> i ≠ gw -> some i ≠ lv.ownBlock -> w'.heap[i]? = w.heap[i]?) := by
 have HH := Lib.hid fun W (hb : Below w.heap.size w W) => qBx (.slice ad (ts.length + 1) lcap) (x :: ts) W (hv.below hb (Nat.le_refl _))
 rw [hhd] at HH
 have HLK := Lib.hid fun W => lookM mb pb lb W
 generalize nmM = s at HH HLK hp
 have q0 := hp _ (List.mem_of_getElem? (show heads[0]? = _ from rfl))
 have q1 := hp _ (List.mem_of_getElem? (show heads[1]? = _ from rfl))
 have q2 := hp _ (List.mem_of_getElem? (show heads[2]? = _ from rfl))
 have q3 := hp _ (List.mem_of_getElem? (show heads[3]? = _ from rfl))
 have q4 := hp _ (List.mem_of_getElem? (show heads[4]? = _ from rfl))
 have q5 := hp _ (List.mem_of_getElem? (show heads[5]? = _ from rfl))
 have q6 := hp _ (List.mem_of_getElem? (show heads[6]? = _ from rfl))
 have q7 := hp _ (List.mem_of_getElem? (show heads[7]? = _ from rfl))
 have HS := Lib.hid fun W (hb : Below w.heap.size w W) => call_mac gw mb lg lo lv k ps pb lb t1 y (.slice ad (ts.length + 1) lcap) p d x ts W B (Nat.le_trans hB hb.size) (h.go hb) hl hk0 hk hd0 hd (hm.go hb) ht1 hy hyk hyn hyp hys (hv.below hb (Nat.le_refl _)) h0 hn hpc
 have HW := Lib.hid h
 clear h hv hp hm hhd
 go_enter Tryz.func88, Tryz.ntmps88
 go_wp2_with fail
 refine (HH.out _ (by go_grown)).mono ?_
 rintro e w1 ⟨rfl, hb1⟩
 have HB1 : Hid (Below w.heap.size w w1) := by
  refine Below.trans ?_ (hb1.mono (by go_size))
  go_grown
 have x0 : w1.heap[w.heap.size]? = some (.cells #[.int .i64 0, .int .i64 0] 36 (0, 0)) := by
  rw [hb1.block _ (by go_size), old2 _ _ (by go_size)]
  exact qH _ _ (by go_size)
 have x1 : w1.heap[w.heap.size + 1]? = some (.cells #[.slice ad (ts.length + 1) lcap, .int .i64 p] 145 (0, 0)) := by
  rw [hb1.block _ (by go_size)]
  exact qH _ _ (by go_size)
 have y0 : w1.cell? ⟨w.heap.size + 1, 0, none⟩ = some (.slice ad (ts.length + 1) lcap) := qB x1 rfl
 have y1 : w1.cell? ⟨w.heap.size + 1, 1, none⟩ = some (.int .i64 p) := qB x1 rfl
 have hmm := HLK.out w1 (HW.out.go HB1.out).mp
 have hg1 : w1.cell? ⟨gw, 2, none⟩ = some (.map (some mb)) := qB (HW.out.go HB1.out).box rfl
 have X0 := Lib.hid x0
 have hz1 := qC x1
 clear hb1 x0 x1 HH
 go_wp2_with fail
 refine (HS.out _ HB1.out).mono ?_
 rintro e w2 ⟨rfl, hr2, hf2, ho2⟩
 have hW1 := HW.out.go HB1.out
 have hk2 := KT.ofM hW1 ho2
 have y2 := hk2 _ _ _ _ X0.out (by decide) (by decide)
 obtain ⟨⟨u0, u1⟩, f0, f1⟩ := qo y2
 have hz2 := qC y2
 have HR2 := Lib.hid hr2
 have HF2 := Lib.hid hf2
 have HO2 := Lib.hid ho2
 have Y2 := Lib.hid y2
 clear hr2 hf2 ho2 hk2 y2 hW1 HS
 go_wp2_with fail
 have hsame : Below w2.heap.size w2 ((w2.setCell ⟨w.heap.size, 0, none⟩ (.int .i64 0)).setCell ⟨w.heap.size, 1, none⟩ (.int .i64 0)) := (qX Y2.out rfl).trans (qX (qAj Y2.out rfl) rfl)
 refine bodyPost_ret (v := .tuple #[.int .i64 1, .agg #[.int .i64 0, .int .i64 0]]) (by simp [results, Tryz.results88, go_sem, u0, u1]) rfl ⟨rfl, ?_, ?_, ?_⟩
 ·obtain ⟨lv', v', q, m1, ⟨b1, m2⟩, b2, m3⟩ := HR2.out
  exact ⟨lv', v', q, m1.go hsame, ⟨b1, ownU m2 hsame⟩, b2, m3.go hsame⟩
 ·exact ((Fr.below (HB1.out.mono hB)).trans HF2.out).trans (Fr.below (hsame.mono (Nat.le_trans hB (Nat.le_trans HB1.out.size HF2.out.size))))
 ·intro i hi h1 h2
  have hi2 := Nat.lt_of_lt_of_le hi HB1.out.size
  exact (hsame.block i (Nat.lt_of_lt_of_le hi2 HF2.out.size)).trans ((HO2.out i hi2 h1 h2).trans (HB1.out.block i hi))
end Go.Proofs.YtgjmbjahgcndnaaGreatDoor
