/- asm: a line that begins with a label. -/
import Derived.Test.YtjmjhbdlbmnllaaGreatDoorPut40
import Derived.Test.YtjmjhbdlbmnllaaGreatDoorPut39
namespace Go.Proofs.YtjmjhbdlbmnllaaGreatDoor
open Go.RowKit Go.Maps Go.MapKept

/-- The names of labels, as a row. -/
def nameC (l : List (List UInt8 × Nat)) : List Value := l.map fun a => .string ⟨a.1.toArray⟩
theorem infoStr : (Tryz.prog.info? 9).map (fun i => (i.zero, i.size, i.bytes)) = some (some (.string ⟨#[]⟩), 1, 16) := by kernel_rfl

/-- All blocks but three are as they were. -/
structure Ch3 (a b : Nat) (o : Option Nat) (W W' : World) : Prop where
  os : W'.os = W.os
  tape : W'.tape = W.tape
  output : W'.output = W.output
  size : W.heap.size ≤ W'.heap.size
  block : ∀ i, i < W.heap.size → i ≠ a → i ≠ b → some i ≠ o → W'.heap[i]? = W.heap[i]?

/-- Next of a text that lies in an elder world. -/
theorem next_at (v : Value) (ts : List Tk) (w0 w : World) (h : PReads w0 v ts) (hb : Below w0.heap.size w0 w) :
    Calls Tryz.prog 53 #[v] w fun r w' => (∃ v', r = .returned (.tuple #[(headT ts).V, v']) ∧ PReads w0 v' ts.tail) ∧ Below w.heap.size w w' := by
  obtain ⟨ad, cap, rfl, hc, hm, h⟩ := h
  cases ts with
  | nil =>
    refine (next_nil ad cap w).mono ?_
    rintro e w' ⟨rfl, hb⟩
    exact ⟨⟨_, rfl, PReads.nil w0⟩, hb⟩
  | cons x r =>
    obtain ⟨b, o, rfl, hlt, hcell⟩ := h (by simp)
    obtain ⟨cap, rfl⟩ : ∃ c, cap = c + 1 := ⟨cap - 1, by simp at hc; omega⟩
    have c := hcell 0 (by simp)
    simp only [Nat.zero_mul, Nat.add_zero, List.getElem_cons_zero] at c
    rw [← hb.cell (by exact hlt), ← hb.cell (by exact hlt), ← hb.cell (by exact hlt), ← hb.cell (by exact hlt)] at c
    have hc' : r.length ≤ cap := by simpa using hc
    refine (next_cons b o r.length cap x.k x.n x.t w _ (Lib.hid rfl) hc' hm (Nat.lt_of_lt_of_le hlt hb.size) c.1 c.2.1 c.2.2.1 c.2.2.2).mono ?_
    rintro e w' ⟨rfl, hb⟩
    refine ⟨⟨_, rfl, _, cap, rfl, hc', by omega, fun h0 => ?_⟩, hb⟩
    have h0' : 0 < r.length := h0
    refine ⟨b, o + 4, by rw [if_neg (by omega)], hlt, fun i hi => ?_⟩
    have hi' : i < r.length := hi
    have := hcell (i + 1) (by simp; omega)
    simp only [List.getElem_cons_succ] at this
    rw [show o + (i + 1) * 4 = o + 4 + i * 4 by omega] at this
    exact this

set_option maxHeartbeats 8000000 in
set_option maxRecDepth 100000 in
theorem labels_one (gu B mb : Nat) (ln : Int) (nv pp pv rv : Value) (its : List It) (labs : List (List UInt8 × Nat)) (nm : List UInt8) (n m : Int) (rest : List Tk) (v : Value) (w0 w : World) (h00 : Below w0.heap.size w0 w) (hgu0 : w0.heap.size ≤ gu) (hmb0 : w0.heap.size ≤ mb) (h : PReads w0 v (⟨1, n, ⟨nm.toArray⟩⟩ :: ⟨3, m, ⟨#[58]⟩⟩ :: rest)) (hl : labelled rest = false)
    (hU : UR w B gu (.slice none 0 0) ln nv (.map (some mb)) pp pv rv its) (hN : w.ownsRow B 9 1 nv labs.length (nameC labs)) (hM : LbR w mb labs) (hk : labelAt nm labs = none) (hnl : nm.length ≤ maxLen) (hG : Sc.Glob w) (hr : regU 1 nm < 0) (hname : Xp.nameR nm = true) (hits : its.length ≤ 100000) (hlen : labs.length ≤ 100000) :
    Calls Tryz.prog 52 #[.pointer (some ⟨gu, 0, none⟩), v] w fun r w' => ∃ v' nv', r = .returned (.tuple #[v', .int .i64 0]) ∧ PReads w0 v' rest ∧ Below w0.heap.size w0 w' ∧ UR w' B gu (.slice none 0 0) ln nv' (.map (some mb)) pp pv rv its ∧ w'.ownsRow B 9 1 nv' (labs.length + 1) (nameC (labs ++ [(nm, its.length)])) ∧ LbR w' mb (labs ++ [(nm, its.length)]) ∧ Ch3 gu mb nv.ownBlock w w' := by
  have HN1 := Lib.hid fun W (hb : Below w.heap.size w W) => next_at v (⟨1, n, ⟨nm.toArray⟩⟩ :: ⟨3, m, ⟨#[58]⟩⟩ :: rest) w0 W h (h00.trans (hb.mono h00.size))
  have HN2 := Lib.hid fun v' W (hb : Below w.heap.size w W) (hv : PReads w0 v' (⟨3, m, ⟨#[58]⟩⟩ :: rest)) => next_at v' (⟨3, m, ⟨#[58]⟩⟩ :: rest) w0 W hv (h00.trans (hb.mono h00.size))
  obtain ⟨⟨xk, xn, xt⟩, hx⟩ : ∃ x, headT rest = x := ⟨_, rfl⟩
  obtain ⟨tl, htl⟩ : ∃ tl, rest.tail = tl := ⟨_, rfl⟩
  obtain ⟨⟨yk, yn, yt⟩, hy⟩ : ∃ y, headT tl = y := ⟨_, rfl⟩
  have HN3 : Hid (∀ v' W, Below w0.heap.size w0 W → PReads w0 v' rest → Calls Tryz.prog 53 #[v'] W fun r w' => (∃ v2, r = .returned (.tuple #[tokV xk xn xt, v2]) ∧ PReads w0 v2 tl) ∧ Below W.heap.size W w') := fun v' W hb hv => by
    have := next_at v' rest w0 W hv hb
    rwa [hx, htl] at this
  have HN4 : Hid (∀ v' W, Below w0.heap.size w0 W → PReads w0 v' tl → Calls Tryz.prog 53 #[v'] W fun r w' => (∃ v2, r = .returned (.tuple #[tokV yk yn yt, v2]) ∧ PReads w0 v2 tl.tail) ∧ Below W.heap.size W w') := fun v' W hb hv => by
    have := next_at v' tl w0 W hv hb
    rwa [hy] at this
  obtain ⟨p1, hp1⟩ : ∃ p1, (xk == 1) = p1 := ⟨_, rfl⟩
  obtain ⟨p2, hp2⟩ : ∃ p2, (yk == 3 && yt.toList == [58]) = p2 := ⟨_, rfl⟩
  have HW3 : Hid (∀ W, Calls Tryz.prog 54 #[tokV xk xn xt] W fun r w' => r = .returned (.bool p1) ∧ Below W.heap.size W w') := fun W => by
    have := aword_any xk xn xt W
    rwa [hp1] at this
  have HS3 : Hid (∀ W, Calls Tryz.prog 93 #[tokV yk yn yt, .string ⟨#[58]⟩] W fun r w' => r = .returned (.bool p2) ∧ Below W.heap.size W w') := fun W => by
    have := asign_any yk yn yt ⟨#[58]⟩ W
    rwa [show (⟨#[58]⟩ : ByteArray).toList = [58] by simp [ByteArray.toList_eq], hp2] at this
  have HLB : Hid ((p1 && p2) = false) := by
    have := hl
    unfold labelled at this
    rw [hx, htl, hy] at this
    simp only [hp1, hp2] at this
    exact this
  clear hx hy hp1 hp2 htl
  have H00 := Lib.hid h00
  have HW1 := Lib.hid fun W => aword_any 1 n ⟨nm.toArray⟩ W
  have HS1 : Hid (∀ W, Calls Tryz.prog 93 #[tokV 3 m ⟨#[58]⟩, .string ⟨#[58]⟩] W fun r w' => r = .returned (.bool true) ∧ Below W.heap.size W w') := fun W => by
    have := asign_any 3 m ⟨#[58]⟩ ⟨#[58]⟩ W
    rwa [show ((3 : Int) == 3 && (⟨#[58]⟩ : ByteArray).toList == (⟨#[58]⟩ : ByteArray).toList) = true by simp] at this
  obtain ⟨ad, cap, rfl, _⟩ := h
  obtain ⟨iv, il, u1, u2, u3, u4⟩ := id hU.its
  have c0 : w.cell? ⟨gu, 0, none⟩ = some (.slice none 0 0) := blk_cell u1 rfl
  have c3 : w.cell? ⟨gu, 3, none⟩ = some (.map (some mb)) := blk_cell u1 rfl
  have hg := blk_lt u1
  have HFR := Lib.hid fun W (hb : Below w.heap.size w W) => free_yes gu mb n nm labs W (by rw [hb.cell (by exact hg)]; exact c0) (by rw [hb.cell (by exact hg)]; exact c3) (hM.go hb) hk hnl (hG.below hb hG.sz) hr hname
  have HU := Lib.hid hU
  have HNR := Lib.hid hN
  have HM := Lib.hid hM
  clear hU hN hM hG hname hr u1 u2 u3 u4 h00 hl
  unfold Tk.V tokV headT at *
  simp only [List.length_cons, List.tail_cons] at *
  go_enter Tryz.func52, Tryz.ntmps52
  go_wp2_with fail
  refine wp_loop_rounds 2 ?_
  rw [rounds_succ]
  go_wp2_with fail
  refine (HN1.out _ (Below.refl _ _)).mono ?_
  rintro e w1 ⟨⟨v1, rfl, hv1⟩, hb1⟩
  obtain ⟨ad1, cap1, rfl, _⟩ := id hv1
  have HV1 := Lib.hid hv1
  have HB1 := Lib.hid hb1
  clear hv1 hb1 HN1
  go_wp2_with fail
  refine (HN2.out _ _ (HB1.out.alloc HB1.out.size _) HV1.out).mono ?_
  rintro e w2 ⟨⟨v2, rfl, hv2⟩, hb2⟩
  obtain ⟨hB2, hz2, xr⟩ := box_keep hb2
  have HV2 := Lib.hid hv2
  obtain ⟨ad2, cap2, rfl, _⟩ := id hv2
  have t0 : w2.cell? ⟨w1.heap.size, 0, none⟩ = some (.int .i64 1) := blk_cell xr rfl
  have t1 : w2.cell? ⟨w1.heap.size, 1, none⟩ = some (.int .i64 n) := blk_cell xr rfl
  have t2 : w2.cell? ⟨w1.heap.size, 2, none⟩ = some (.string ⟨nm.toArray⟩) := blk_cell xr rfl
  have HB2 := Lib.hid (HB1.out.trans (hB2.mono HB1.out.size))
  have HZ1 := Lib.hid (Nat.lt_of_lt_of_le hg HB1.out.size)
  have XR := Lib.hid xr
  clear hv2 hb2 hB2 xr HB1 HN2 HV1
  go_wp2_with fail
  refine (HW1.out _).mono ?_
  rintro e w3 ⟨rfl, hb3⟩
  obtain ⟨hB3, hz3, yr⟩ := box_keep hb3
  have s0 : w3.cell? ⟨w2.heap.size, 0, none⟩ = some (.int .i64 3) := blk_cell yr rfl
  have s1 : w3.cell? ⟨w2.heap.size, 1, none⟩ = some (.int .i64 m) := blk_cell yr rfl
  have s2 : w3.cell? ⟨w2.heap.size, 2, none⟩ = some (.string ⟨#[58]⟩) := blk_cell yr rfl
  have HB3 := Lib.hid (HB2.out.trans (hB3.mono HB2.out.size))
  have HV3 := HV2
  have XR3 := Lib.hid ((hB3.block _ hz2).trans XR.out)
  clear hb3 hB3 yr HB2 HV2 XR HW1 t0 t1 t2
  go_wp2_with fail
  refine (HS1.out _).mono ?_
  rintro e w4 ⟨rfl, hb4⟩
  have HB4 := Lib.hid (HB3.out.trans (hb4.mono HB3.out.size))
  have HV4 := HV3
  have XR4 := Lib.hid ((hb4.block _ (blk_lt XR3.out)).trans XR3.out)
  have t0 : w4.cell? ⟨w1.heap.size, 0, none⟩ = some (.int .i64 1) := blk_cell XR4.out rfl
  have t1 : w4.cell? ⟨w1.heap.size, 1, none⟩ = some (.int .i64 n) := blk_cell XR4.out rfl
  have t2 : w4.cell? ⟨w1.heap.size, 2, none⟩ = some (.string ⟨nm.toArray⟩) := blk_cell XR4.out rfl
  clear hb4 HB3 HV3 XR3 HS1 s0 s1 s2
  go_wp2_with fail
  refine (HFR.out _ HB4.out).mono ?_
  rintro e w5 ⟨rfl, hb5⟩
  have HB5 := Lib.hid (HB4.out.trans (hb5.mono HB4.out.size))
  have HV5 := HV4
  have XR5 := Lib.hid ((hb5.block _ (blk_lt XR4.out)).trans XR4.out)
  have HU5 := Lib.hid (HU.out.go HB5.out)
  have HM5 := Lib.hid (HM.out.go HB5.out)
  have HN5 := Lib.hid (Sc.owns_below HNR.out HB5.out (Nat.le_refl _))
  clear hb5 HB4 HV4 XR4 HFR t0 t1 t2
  go_wp2_with fail
  obtain ⟨iv5, il5, k1, k2, k3, k4⟩ := id HU5.out.its
  obtain ⟨ia, ic, hiv⟩ := row_shape k2
  subst hiv
  obtain ⟨na, nc, hnv⟩ := row_shape HN5.out
  subst hnv
  obtain ⟨D, hmo, hmd⟩ := id HM5.out
  obtain ⟨W6, hup, hown6, hg6⟩ := World.ownsMap.update (w := w5.drew) hmo lawS Tryz.underlying84 (by unfold maxLen; omega) (strKey hnl) (plainElem_int Tryz.underlying3 (by simp [Lit.wf, IntKind.min, IntKind.max, IntKind.bits, IntKind.signed]; omega : (Lit.int .i64 ((its.length : Nat) : Int)).wf = true))
  have hmb : ∃ es ck, w5.heap[mb]? = some (.map es ck) := by obtain ⟨es, ck, hb, _⟩ := hmo; exact ⟨es, ck, hb⟩
  have kp6 : ∀ {q : Nat} {c : Array Value} {t : TypeId}, w5.heap[q]? = some (.cells c t (0, 0)) → W6.heap[q]? = some (.cells c t (0, 0)) := fun {q c t} hq => (hg6.block q (blk_lt hq) (by intro e; injection e with e; subst e; obtain ⟨es, ck, hb⟩ := hmb; rw [hb] at hq; cases hq)).trans hq
  have HM6 : Hid (LbR W6 mb (labs ++ [(nm, its.length)])) := ⟨_, by rw [List.length_append]; exact hown6, hmd.snoc hk⟩
  have X1 := Lib.hid k1
  have HG6 := Lib.hid hg6
  have hS5 : w5.heap[gu]? = _ ∧ w5.heap[w1.heap.size]? = _ := ⟨k1, XR5.out⟩
  have hS6 := And.intro (kp6 k1) (kp6 XR5.out)
  have KP6 : Hid (∀ (q : Nat) (c : Array Value) (t : TypeId), w5.heap[q]? = some (.cells c t (0, 0)) → W6.heap[q]? = some (.cells c t (0, 0))) := fun q c t h => kp6 h
  clear kp6 hown6 hg6 hmo k1
  refine wp_region_noPanic ?_
  refine wp_region_held_drew (S := fun X => X.heap[gu]? = some (.cells (uC (.slice none 0 0) ln (.slice na labs.length nc) (.map (some mb)) (.slice ia its.length ic) pp pv rv) 90 (0, 0)) ∧ X.heap[w1.heap.size]? = some (.cells #[.int .i64 1, .int .i64 n, .string ⟨nm.toArray⟩] 113 (0, 0))) (by kernel_rfl) hS5 (fun hHeld => ?_)
  clear hS5
  refine take_at 0 32 (v := ?_) rfl rfl (by kernel_rfl) (by kernel_rfl) (by kernel_rfl) (fun _ _ _ h => h) rfl ?_ hHeld ?_
  rotate_left
  · intro w hSw
    go_simp
    try with_reducible rfl
  simp only [List.setIfInBounds_toArray, List.set_cons_zero, List.set_cons_succ]
  refine take_at 1 33 (v := ?_) rfl rfl (by kernel_rfl) (by kernel_rfl) (by kernel_rfl) (fun _ _ _ h => h) rfl ?_ hHeld ?_
  rotate_left
  · intro w hSw
    go_simp
    try with_reducible rfl
  simp only [List.setIfInBounds_toArray, List.set_cons_zero, List.set_cons_succ]
  refine take_at 2 34 (v := ?_) rfl rfl (by kernel_rfl) (by kernel_rfl) (by kernel_rfl) (fun _ _ _ h => h) rfl ?_ hHeld ?_
  rotate_left
  · intro w hSw
    go_simp
    try with_reducible rfl
  simp only [List.setIfInBounds_toArray, List.set_cons_zero, List.set_cons_succ]
  refine take_at 3 35 (v := ?_) rfl rfl (by kernel_rfl) (by kernel_rfl) (by kernel_rfl) (fun _ _ _ h => h) rfl ?_ hHeld ?_
  rotate_left
  · intro w hSw
    have y3 : w.cell? ⟨gu, 3, none⟩ = some (.map (some mb)) := blk_cell hSw.1 rfl
    go_simp
    try with_reducible rfl
  simp only [List.setIfInBounds_toArray, List.set_cons_zero, List.set_cons_succ]
  refine take_at 4 36 (v := ?_) rfl rfl (by kernel_rfl) (by kernel_rfl) (by kernel_rfl) (fun _ _ _ h => h) rfl ?_ hHeld ?_
  rotate_left
  · intro w hSw
    go_simp
    try with_reducible rfl
  simp only [List.setIfInBounds_toArray, List.set_cons_zero, List.set_cons_succ]
  refine take_at 5 37 (v := ?_) rfl rfl (by kernel_rfl) (by kernel_rfl) (by kernel_rfl) (fun _ _ _ h => h) rfl ?_ hHeld ?_
  rotate_left
  · intro w hSw
    have yt : w.cell? ⟨w1.heap.size, 2, none⟩ = some (.string ⟨nm.toArray⟩) := blk_cell hSw.2 rfl
    go_simp
    try with_reducible rfl
  simp only [List.setIfInBounds_toArray, List.set_cons_zero, List.set_cons_succ]
  refine take_at 6 38 (v := ?_) rfl rfl (by kernel_rfl) (by kernel_rfl) (by kernel_rfl) (fun _ _ _ h => h) rfl ?_ hHeld ?_
  rotate_left
  · intro w hSw
    go_simp
    try with_reducible rfl
  simp only [List.setIfInBounds_toArray, List.set_cons_zero, List.set_cons_succ]
  refine take_at 7 39 (v := ?_) rfl rfl (by kernel_rfl) (by kernel_rfl) (by kernel_rfl) (fun _ _ _ h => h) rfl ?_ hHeld ?_
  rotate_left
  · intro w hSw
    go_simp
    try with_reducible rfl
  simp only [List.setIfInBounds_toArray, List.set_cons_zero, List.set_cons_succ]
  refine take_at 8 40 (v := ?_) rfl rfl (by kernel_rfl) (by kernel_rfl) (by kernel_rfl) (fun _ _ _ h => h) rfl ?_ hHeld ?_
  rotate_left
  · intro w hSw
    go_simp
    try with_reducible rfl
  simp only [List.setIfInBounds_toArray, List.set_cons_zero, List.set_cons_succ]
  refine take_at 9 41 (v := ?_) rfl rfl (by kernel_rfl) (by kernel_rfl) (by kernel_rfl) (fun _ _ _ h => h) rfl ?_ hHeld ?_
  rotate_left
  · intro w hSw
    have y4 : w.cell? ⟨gu, 4, none⟩ = some (.slice ia its.length ic) := blk_cell hSw.1 rfl
    go_simp
    try with_reducible rfl
  simp only [List.setIfInBounds_toArray, List.set_cons_zero, List.set_cons_succ]
  refine take_at 10 42 (v := ?_) rfl rfl (by kernel_rfl) (by kernel_rfl) (by kernel_rfl) (fun _ _ _ h => h) rfl ?_ hHeld ?_
  rotate_left
  · intro w hSw
    go_simp
    try with_reducible rfl
  simp only [List.setIfInBounds_toArray, List.set_cons_zero, List.set_cons_succ]
  refine wpAnyH_ready (rs := [11]) (by kernel_rfl) (by simp) ?_
  refine AllReadyH.cons rfl (fun K hK => ?_) AllReadyH.nil
  go_simp
  refine hK.out _ _ hS6 (fun hHeld => ?_)
  clear hK K hS6 hup
  refine wpAnyH_done (by kernel_rfl) ?_ _
  refine NoPanic.normal ?_
  go_wp2_with fail
  obtain ⟨V0, hV0⟩ : ∃ X, X = W6.drew := ⟨_, rfl⟩
  have hz6 : w5.heap.size ≤ W6.heap.size := HG6.out.size
  have hzB : B ≤ W6.heap.size := Nat.le_trans HU5.out.le hz6
  have hrow6 : W6.ownsRow B 9 1 (.slice na labs.length nc) labs.length (nameC labs) := World.ownsRow.kept (w := w5.drew) HN5.out HG6.out (by obtain ⟨es, ck, hb⟩ := hmb; exact .inr (fun e => row_map HN5.out hb e.symm))
  have HR6 := Lib.hid hrow6
  have hS0 : V0.heap[w1.heap.size]? = some (.cells #[.int .i64 1, .int .i64 n, .string ⟨nm.toArray⟩] 113 (0, 0)) := by rw [hV0]; exact hHeld.2
  have HUB0 : Hid (V0.heap[gu]? = some (.cells (uC (.slice none 0 0) ln (.slice na labs.length nc) (.map (some mb)) (.slice ia its.length ic) pp pv rv) 90 (0, 0))) := by rw [hV0]; exact hHeld.1
  have hR0 : V0.ownsRow B 9 1 (.slice na labs.length nc) labs.length (nameC labs) := by rw [hV0]; exact hrow6
  have HR0 := Lib.hid hR0
  have HV0 := Lib.hid hV0
  have HZV : Hid (V0.heap.size = W6.heap.size) := by rw [hV0]; rfl
  refine wp_region_noPanic ?_
  refine wp_region_held_drew (S := fun X => X.heap[w1.heap.size]? = some (.cells #[.int .i64 1, .int .i64 n, .string ⟨nm.toArray⟩] 113 (0, 0))) (by kernel_rfl) hHeld.2 (fun hHeld => ?_)
  rw [← hV0] at hHeld ⊢
  clear hV0 hrow6 hR0 hS0
  refine take_at 0 43 (v := ?_) rfl rfl (by kernel_rfl) (by kernel_rfl) (by kernel_rfl) (fun _ _ _ h => h) rfl ?_ hHeld ?_
  rotate_left
  · intro w hSw
    go_simp
    try with_reducible rfl
  simp only [List.setIfInBounds_toArray, List.set_cons_zero, List.set_cons_succ]
  refine take_at 1 44 (v := ?_) rfl rfl (by kernel_rfl) (by kernel_rfl) (by kernel_rfl) (fun _ _ _ h => h) rfl ?_ hHeld ?_
  rotate_left
  · intro w hSw
    go_simp
    try with_reducible rfl
  simp only [List.setIfInBounds_toArray, List.set_cons_zero, List.set_cons_succ]
  refine take_at 2 45 (v := ?_) rfl rfl (by kernel_rfl) (by kernel_rfl) (by kernel_rfl) (fun _ _ _ h => h) rfl ?_ hHeld ?_
  rotate_left
  · intro w hSw
    go_simp
    try with_reducible rfl
  simp only [List.setIfInBounds_toArray, List.set_cons_zero, List.set_cons_succ]
  refine take_at 3 46 (v := ?_) rfl rfl (by kernel_rfl) (by kernel_rfl) (by kernel_rfl) (fun _ _ _ h => h) rfl ?_ hHeld ?_
  rotate_left
  · intro w hSw
    go_simp
    try with_reducible rfl
  simp only [List.setIfInBounds_toArray, List.set_cons_zero, List.set_cons_succ]
  refine take_at 5 48 (v := ?_) rfl rfl (by kernel_rfl) (by kernel_rfl) (by kernel_rfl) (fun _ _ _ h => h) rfl ?_ hHeld ?_
  rotate_left
  · intro w hSw
    go_simp
    try with_reducible rfl
  simp only [List.setIfInBounds_toArray, List.set_cons_zero, List.set_cons_succ]
  refine take_at 6 49 (v := ?_) rfl rfl (by kernel_rfl) (by kernel_rfl) (by kernel_rfl) (fun _ _ _ h => h) rfl ?_ hHeld ?_
  rotate_left
  · intro w hSw
    have yt : w.cell? ⟨w1.heap.size, 2, none⟩ = some (.string ⟨nm.toArray⟩) := blk_cell hSw rfl
    go_simp
    try with_reducible rfl
  simp only [List.setIfInBounds_toArray, List.set_cons_zero, List.set_cons_succ]
  refine wpAnyH_ready (rs := [4, 7]) (by kernel_rfl) (by simp) ?_
  refine AllReadyH.cons rfl (fun K hK => ?_) (AllReadyH.cons rfl (fun K hK => ?_) AllReadyH.nil)
  · have xl : V0.cell? ⟨gu, 2, none⟩ = some (.slice na labs.length nc) := blk_cell HUB0.out rfl
    go_simp
    refine hK.out _ _ hHeld (fun hHeld => ?_)
    clear hK K xl
    refine wpAnyH_ready (rs := [7]) (by kernel_rfl) (by simp) ?_
    refine AllReadyH.cons rfl (fun K hK => ?_) AllReadyH.nil
    go_simp
    generalize hWn : World.alloc V0 _ = V1
    have hbl1 : Below V0.heap.size V0 V1 := by rw [← hWn]; exact oalloc _ _
    have HUB1 := Lib.hid ((hbl1.block _ (blk_lt HUB0.out)).trans HUB0.out)
    have HR1 := Lib.hid (Sc.owns_below HR0.out hbl1 (Nat.le_refl _))
    have hzz := hbl1.size
    have HBN : Hid (V1.heap[V0.heap.size]? = some (.cells #[.string ⟨nm.toArray⟩] 9 (0, 0))) := by unfold Hid; rw [← hWn]; exact blk_new V0 _ _
    have HBL := Lib.hid hbl1
    have hT1 := (hbl1.block _ (blk_lt hHeld)).trans hHeld
    refine hK.out _ _ hT1 (fun hHeld => ?_)
    clear hK K hWn hbl1 hT1
    refine wpAnyH_ready (rs := [8]) (by kernel_rfl) (by simp) ?_
    refine AllReadyH.cons rfl (fun K hK => ?_) AllReadyH.nil
    obtain ⟨v', W3, happ, hr', hgr⟩ := app1 72 9 _ 1 16 Tryz.underlying72 infoStr rfl (by decide) (by decide) HR1.out (by have := HZV.out; omega) [.string ⟨nm.toArray⟩] rfl V0.heap.size HBN.out (by intro u hu; simp at hu; subst hu; rfl) (by omega)
    obtain ⟨ta, tc, rfl⟩ := row_shape hr'
    have HA := Lib.hid happ
    have kp3 : ∀ (q : Nat) (c : Array Value) (t : TypeId), V1.heap[q]? = some (.cells c t (0, 0)) → t ≠ 9 → W3.heap[q]? = some (.cells c t (0, 0)) := fun q c t hq ht => (hgr.block q (blk_lt hq) (row_box HR1.out hq ht)).trans hq
    have hub3 := kp3 _ _ _ HUB1.out (by decide)
    have hT3 := kp3 _ _ _ hHeld (by decide)
    have y2 : W3.cell? ⟨gu, 2, none⟩ = some (.slice na labs.length nc) := blk_cell hub3 rfl
    have yf : W3.frozen? ⟨gu, 2, none⟩ = false := blk_froz hub3
    have yz := blk_lt hub3
    have hne1 : w1.heap.size ≠ gu := by have := HZ1.out; omega
    have HFIN : Hid (UR (W3.setCell ⟨gu, 2, none⟩ (.slice ta (labs.length + 1) tc)) B gu (.slice none 0 0) ln (.slice ta (labs.length + 1) tc) (.map (some mb)) pp pv rv its ∧ (W3.setCell ⟨gu, 2, none⟩ (.slice ta (labs.length + 1) tc)).ownsRow B 9 1 (.slice ta (labs.length + 1) tc) (labs.length + 1) (nameC (labs ++ [(nm, its.length)])) ∧ LbR (W3.setCell ⟨gu, 2, none⟩ (.slice ta (labs.length + 1) tc)) mb (labs ++ [(nm, its.length)]) ∧ Ch3 gu mb (Value.slice na labs.length nc).ownBlock w (W3.setCell ⟨gu, 2, none⟩ (.slice ta (labs.length + 1) tc)) ∧ Below w0.heap.size w0 (W3.setCell ⟨gu, 2, none⟩ (.slice ta (labs.length + 1) tc))) := by
      have hV0 := HV0.out
      have hz1 := HZV.out
      have hz2 := HB5.out.size
      have hmbV : ∃ es ck, V1.heap[mb]? = some (.map es ck) := by
        obtain ⟨D', ⟨es, ck, hb, _⟩, _⟩ := HM6.out
        have hb0 : V0.heap[mb]? = some (.map es ck) := by rw [hV0]; exact hb
        exact ⟨es, ck, (HBL.out.block _ (blk_lt hb0)).trans hb0⟩
      have hguB := HU5.out.lt
      have hgm : gu ≠ mb := by
        rintro rfl
        obtain ⟨es, ck, hb⟩ := hmbV
        rw [HUB1.out] at hb
        cases hb
      have hchain : ∀ i, i < w.heap.size → i ≠ gu → i ≠ mb → some i ≠ (Value.slice na labs.length nc).ownBlock → (W3.setCell ⟨gu, 2, none⟩ (.slice ta (labs.length + 1) tc)).heap[i]? = w.heap[i]? := fun i hi h1 h2 h3 => by
        have hi5 : i < w5.heap.size := by omega
        have hi0 : i < V0.heap.size := by rw [hz1]; omega
        rw [Below.heap_setCell _ _ _ _ h1, hgr.block i (by omega) h3, HBL.out.block i hi0, hV0]
        show W6.heap[i]? = _
        rw [HG6.out.block i hi5 (by intro e; injection e with e; exact h2 e)]
        exact HB5.out.block i hi
      have hCh : Ch3 gu mb (Value.slice na labs.length nc).ownBlock w (W3.setCell ⟨gu, 2, none⟩ (.slice ta (labs.length + 1) tc)) := by
        have hS := gset W3 gu 2 (.slice ta (labs.length + 1) tc)
        have e0 : V0.os = w.os ∧ V0.tape = w.tape ∧ V0.output = w.output := by rw [hV0]; exact ⟨HG6.out.os.trans HB5.out.os, HG6.out.tape.trans HB5.out.tape, HG6.out.output.trans HB5.out.output⟩
        refine ⟨hS.os.trans (hgr.os.trans (HBL.out.os.trans e0.1)), hS.tape.trans (hgr.tape.trans (HBL.out.tape.trans e0.2.1)), hS.output.trans (hgr.output.trans (HBL.out.output.trans e0.2.2)), ?_, hchain⟩
        have := hgr.size
        have := HBL.out.size
        simp
        omega
      have hrowI : W3.ownsRow B 140 6 (.slice ia its.length ic) its.length (itC il5) := by
        have r6 : W6.ownsRow B 140 6 (.slice ia its.length ic) its.length (itC il5) := World.ownsRow.kept (w := w5.drew) k2 HG6.out (by obtain ⟨es, ck, hb⟩ := hmb; exact .inr (fun e => row_map k2 hb e.symm))
        have r0 : V0.ownsRow B 140 6 (.slice ia its.length ic) its.length (itC il5) := by rw [hV0]; exact r6
        have r1 := Sc.owns_below r0 HBL.out (Nat.le_refl _)
        exact r1.kept hgr (row_apart HR1.out r1 (by decide))
      refine ⟨⟨hguB, ?_, _, il5, blk_set hub3, row_set hrowI hguB, k3, fun p hp => (k4 p hp).stays fun {q c t} hq ht => ?_⟩, ?_, ?_, hCh, ?_⟩
      · have := hgr.size
        have := HU5.out.le
        simp
        omega
      · have q6 := KP6.out q c t hq
        have q0 : V0.heap[q]? = some (.cells c t (0, 0)) := by rw [hV0]; exact q6
        have q1 := (HBL.out.block _ (blk_lt q0)).trans q0
        have q3 := kp3 q c t q1 (by rintro rfl; exact absurd ht (by decide))
        rw [Below.heap_setCell _ _ _ _ (by
          show q ≠ gu
          rintro rfl
          rw [X1.out] at hq
          injection hq with hq
          injection hq with _ e2
          subst e2
          exact absurd ht (by decide))]
        exact q3
      · have e1 : nameC (labs ++ [(nm, its.length)]) = nameC labs ++ [.string ⟨nm.toArray⟩] := by simp [nameC]
        rw [e1]
        exact row_set hr' hguB
      · have m0 : LbR V0 mb (labs ++ [(nm, its.length)]) := by rw [hV0]; exact HM6.out
        have m1 := m0.go HBL.out
        obtain ⟨es, ck, hb⟩ := hmbV
        have m3 := m1.grown hgr (fun e => row_map HR1.out hb e.symm)
        exact m3.grown (gset W3 gu 2 _) (by intro e; injection e with e; exact hgm e)
      · refine ⟨hCh.os.trans H00.out.os, hCh.tape.trans H00.out.tape, hCh.output.trans H00.out.output, Nat.le_trans H00.out.size hCh.size, fun i hi => ?_⟩
        rw [hchain i (Nat.lt_of_lt_of_le hi H00.out.size) (by omega) (by omega) (fun e => by have := (HN5.out.lt i e.symm).1; omega)]
        exact H00.out.block i hi
    refine step_app_eq (by rfl) 51 (by rfl) _ _ _ _ (by rfl) _ _ (by rfl) (by rfl) HA.out ?_
    simp only [List.setIfInBounds_toArray, List.set_cons_zero, List.set_cons_succ]
    refine hK.out _ _ hT3 (fun hHeld => ?_)
    clear hK K HA
    refine take_at 9 52 (v := ?_) rfl rfl (by kernel_rfl) (by kernel_rfl) (by kernel_rfl) (fun _ _ _ h => h) rfl ?_ hHeld ?_
    rotate_left
    · intro w hSw
      go_simp
      try with_reducible rfl
    simp only [List.setIfInBounds_toArray, List.set_cons_zero, List.set_cons_succ]
    refine take_at 10 53 (v := ?_) rfl rfl (by kernel_rfl) (by kernel_rfl) (by kernel_rfl) (fun _ _ _ h => h) rfl ?_ hHeld ?_
    rotate_left
    · intro w hSw
      go_simp
      try with_reducible rfl
    simp only [List.setIfInBounds_toArray, List.set_cons_zero, List.set_cons_succ]
    refine wpAnyH_ready (rs := [11]) (by kernel_rfl) (by simp) ?_
    refine AllReadyH.cons rfl (fun K hK => ?_) AllReadyH.nil
    go_simp
    refine hK.out _ _ (by rw [Below.heap_setCell _ _ _ _ hne1]; exact hHeld) (fun _ => ?_)
    clear hK K y2 yf hHeld hT3
    refine wpAnyH_done (by kernel_rfl) ?_ _
    refine NoPanic.normal ?_
    clear hr' hgr kp3 hub3 HR1 HUB1 HBL HBN
    go_wp2_with fail
    obtain ⟨Wf, hWf⟩ : ∃ X, X = W3.setCell ⟨gu, 2, none⟩ (.slice ta (labs.length + 1) tc) := ⟨_, rfl⟩
    rw [← hWf] at HFIN ⊢
    clear hWf
    obtain ⟨hF1, hF2, hF3, hF4, hF5⟩ := HFIN.out
    have HF5 := Lib.hid hF5
    have HFA : Hid (∀ W', Below Wf.heap.size Wf W' → ∃ v' nv', Ending.returned (.tuple #[.slice ad2 rest.length cap2, .int .i64 0]) = .returned (.tuple #[v', .int .i64 0]) ∧ PReads w0 v' rest ∧ Below w0.heap.size w0 W' ∧ UR W' B gu (.slice none 0 0) ln nv' (.map (some mb)) pp pv rv its ∧ W'.ownsRow B 9 1 nv' (labs.length + 1) (nameC (labs ++ [(nm, its.length)])) ∧ LbR W' mb (labs ++ [(nm, its.length)]) ∧ Ch3 gu mb (Value.slice na labs.length nc).ownBlock w W') := fun W' hb =>
      ⟨_, _, rfl, HV5.out, hF5.trans (hb.mono hF5.size), hF1.go hb, Sc.owns_below hF2 hb (Nat.le_refl _), hF3.go hb, ⟨hb.os.trans hF4.os, hb.tape.trans hF4.tape, hb.output.trans hF4.output, Nat.le_trans hF4.size hb.size, fun i hi h1 h2 h3 => by rw [hb.block i (Nat.lt_of_lt_of_le hi hF4.size)]; exact hF4.block i hi h1 h2 h3⟩⟩
    clear hF1 hF2 hF3 hF4 hF5 HFIN HR0 HUB0 HR6 KP6 HG6 HM6
    rw [rounds_succ]
    go_wp2_with fail
    refine (HN3.out _ _ HF5.out HV5.out).mono ?_
    rintro e z1 ⟨⟨v1, rfl, hv1⟩, hb1⟩
    obtain ⟨ad1', cap1', rfl, _⟩ := id hv1
    have HY1 := Lib.hid hv1
    have HZ2 := Lib.hid hb1
    have HZ0 := Lib.hid (HF5.out.trans (HZ2.out.mono HF5.out.size))
    clear hv1 hb1
    go_wp2_with fail
    refine (HN4.out _ _ (HZ0.out.alloc HZ0.out.size _) HY1.out).mono ?_
    rintro e z2 ⟨⟨v2, rfl, hv2⟩, hb2⟩
    obtain ⟨ad3, cap3, rfl, _⟩ := hv2
    obtain ⟨hB2, hy2, xr⟩ := box_keep hb2
    have t0 : z2.cell? ⟨z1.heap.size, 0, none⟩ = some (.int .i64 xk) := blk_cell xr rfl
    have t1 : z2.cell? ⟨z1.heap.size, 1, none⟩ = some (.int .i64 xn) := blk_cell xr rfl
    have t2 : z2.cell? ⟨z1.heap.size, 2, none⟩ = some (.string xt) := blk_cell xr rfl
    have HQ2 := Lib.hid (HZ2.out.trans (hB2.mono HZ2.out.size))
    clear hb2 hB2 xr HZ2 HY1
    cases p1
    · go_wp2_with fail
      refine (HW3.out _).mono ?_
      rintro e z3 ⟨rfl, hb3⟩
      have HQ3 := Lib.hid (((HQ2.out.alloc HQ2.out.size _)).trans (hb3.mono (by have := HQ2.out.size; simp; omega)))
      clear hb3
      go_wp2_with fail
      go_ret2
      exact HFA.out _ HQ3.out
    · have hp2 : p2 = false := by simpa using HLB.out
      subst hp2
      go_wp2_with fail
      refine (HW3.out _).mono ?_
      rintro e z3 ⟨rfl, hb3⟩
      obtain ⟨hB3, hy3, yr⟩ := box_keep hb3
      have s0 : z3.cell? ⟨z2.heap.size, 0, none⟩ = some (.int .i64 yk) := blk_cell yr rfl
      have s1 : z3.cell? ⟨z2.heap.size, 1, none⟩ = some (.int .i64 yn) := blk_cell yr rfl
      have s2 : z3.cell? ⟨z2.heap.size, 2, none⟩ = some (.string yt) := blk_cell yr rfl
      have HQ3 := Lib.hid (HQ2.out.trans (hB3.mono HQ2.out.size))
      clear hb3 hB3 yr
      go_wp2_with fail
      refine (HS3.out _).mono ?_
      rintro e z4 ⟨rfl, hb4⟩
      have HQ4 := Lib.hid (HQ3.out.trans (hb4.mono HQ3.out.size))
      clear hb4
      go_wp2_with fail
      go_ret2
      exact HFA.out _ HQ4.out
  · go_simp
    generalize hWn : World.alloc V0 _ = V1
    have hbl1 : Below V0.heap.size V0 V1 := by rw [← hWn]; exact oalloc _ _
    have HUB1 := Lib.hid ((hbl1.block _ (blk_lt HUB0.out)).trans HUB0.out)
    have HR1 := Lib.hid (Sc.owns_below HR0.out hbl1 (Nat.le_refl _))
    have hzz := hbl1.size
    have HBN : Hid (V1.heap[V0.heap.size]? = some (.cells #[.string ⟨nm.toArray⟩] 9 (0, 0))) := by unfold Hid; rw [← hWn]; exact blk_new V0 _ _
    have HBL := Lib.hid hbl1
    have hT1 := (hbl1.block _ (blk_lt hHeld)).trans hHeld
    refine hK.out _ _ hT1 (fun hHeld => ?_)
    clear hK K hWn hbl1 hT1
    refine wpAnyH_ready (rs := [4]) (by kernel_rfl) (by simp) ?_
    refine AllReadyH.cons rfl (fun K hK => ?_) AllReadyH.nil
    have xl : V1.cell? ⟨gu, 2, none⟩ = some (.slice na labs.length nc) := blk_cell HUB1.out rfl
    go_simp
    refine hK.out _ _ hHeld (fun hHeld => ?_)
    clear hK K xl
    refine wpAnyH_ready (rs := [8]) (by kernel_rfl) (by simp) ?_
    refine AllReadyH.cons rfl (fun K hK => ?_) AllReadyH.nil
    obtain ⟨v', W3, happ, hr', hgr⟩ := app1 72 9 _ 1 16 Tryz.underlying72 infoStr rfl (by decide) (by decide) HR1.out (by have := HZV.out; omega) [.string ⟨nm.toArray⟩] rfl V0.heap.size HBN.out (by intro u hu; simp at hu; subst hu; rfl) (by omega)
    obtain ⟨ta, tc, rfl⟩ := row_shape hr'
    have HA := Lib.hid happ
    have kp3 : ∀ (q : Nat) (c : Array Value) (t : TypeId), V1.heap[q]? = some (.cells c t (0, 0)) → t ≠ 9 → W3.heap[q]? = some (.cells c t (0, 0)) := fun q c t hq ht => (hgr.block q (blk_lt hq) (row_box HR1.out hq ht)).trans hq
    have hub3 := kp3 _ _ _ HUB1.out (by decide)
    have hT3 := kp3 _ _ _ hHeld (by decide)
    have y2 : W3.cell? ⟨gu, 2, none⟩ = some (.slice na labs.length nc) := blk_cell hub3 rfl
    have yf : W3.frozen? ⟨gu, 2, none⟩ = false := blk_froz hub3
    have yz := blk_lt hub3
    have hne1 : w1.heap.size ≠ gu := by have := HZ1.out; omega
    have HFIN : Hid (UR (W3.setCell ⟨gu, 2, none⟩ (.slice ta (labs.length + 1) tc)) B gu (.slice none 0 0) ln (.slice ta (labs.length + 1) tc) (.map (some mb)) pp pv rv its ∧ (W3.setCell ⟨gu, 2, none⟩ (.slice ta (labs.length + 1) tc)).ownsRow B 9 1 (.slice ta (labs.length + 1) tc) (labs.length + 1) (nameC (labs ++ [(nm, its.length)])) ∧ LbR (W3.setCell ⟨gu, 2, none⟩ (.slice ta (labs.length + 1) tc)) mb (labs ++ [(nm, its.length)]) ∧ Ch3 gu mb (Value.slice na labs.length nc).ownBlock w (W3.setCell ⟨gu, 2, none⟩ (.slice ta (labs.length + 1) tc)) ∧ Below w0.heap.size w0 (W3.setCell ⟨gu, 2, none⟩ (.slice ta (labs.length + 1) tc))) := by
      have hV0 := HV0.out
      have hz1 := HZV.out
      have hz2 := HB5.out.size
      have hmbV : ∃ es ck, V1.heap[mb]? = some (.map es ck) := by
        obtain ⟨D', ⟨es, ck, hb, _⟩, _⟩ := HM6.out
        have hb0 : V0.heap[mb]? = some (.map es ck) := by rw [hV0]; exact hb
        exact ⟨es, ck, (HBL.out.block _ (blk_lt hb0)).trans hb0⟩
      have hguB := HU5.out.lt
      have hgm : gu ≠ mb := by
        rintro rfl
        obtain ⟨es, ck, hb⟩ := hmbV
        rw [HUB1.out] at hb
        cases hb
      have hchain : ∀ i, i < w.heap.size → i ≠ gu → i ≠ mb → some i ≠ (Value.slice na labs.length nc).ownBlock → (W3.setCell ⟨gu, 2, none⟩ (.slice ta (labs.length + 1) tc)).heap[i]? = w.heap[i]? := fun i hi h1 h2 h3 => by
        have hi5 : i < w5.heap.size := by omega
        have hi0 : i < V0.heap.size := by rw [hz1]; omega
        rw [Below.heap_setCell _ _ _ _ h1, hgr.block i (by omega) h3, HBL.out.block i hi0, hV0]
        show W6.heap[i]? = _
        rw [HG6.out.block i hi5 (by intro e; injection e with e; exact h2 e)]
        exact HB5.out.block i hi
      have hCh : Ch3 gu mb (Value.slice na labs.length nc).ownBlock w (W3.setCell ⟨gu, 2, none⟩ (.slice ta (labs.length + 1) tc)) := by
        have hS := gset W3 gu 2 (.slice ta (labs.length + 1) tc)
        have e0 : V0.os = w.os ∧ V0.tape = w.tape ∧ V0.output = w.output := by rw [hV0]; exact ⟨HG6.out.os.trans HB5.out.os, HG6.out.tape.trans HB5.out.tape, HG6.out.output.trans HB5.out.output⟩
        refine ⟨hS.os.trans (hgr.os.trans (HBL.out.os.trans e0.1)), hS.tape.trans (hgr.tape.trans (HBL.out.tape.trans e0.2.1)), hS.output.trans (hgr.output.trans (HBL.out.output.trans e0.2.2)), ?_, hchain⟩
        have := hgr.size
        have := HBL.out.size
        simp
        omega
      have hrowI : W3.ownsRow B 140 6 (.slice ia its.length ic) its.length (itC il5) := by
        have r6 : W6.ownsRow B 140 6 (.slice ia its.length ic) its.length (itC il5) := World.ownsRow.kept (w := w5.drew) k2 HG6.out (by obtain ⟨es, ck, hb⟩ := hmb; exact .inr (fun e => row_map k2 hb e.symm))
        have r0 : V0.ownsRow B 140 6 (.slice ia its.length ic) its.length (itC il5) := by rw [hV0]; exact r6
        have r1 := Sc.owns_below r0 HBL.out (Nat.le_refl _)
        exact r1.kept hgr (row_apart HR1.out r1 (by decide))
      refine ⟨⟨hguB, ?_, _, il5, blk_set hub3, row_set hrowI hguB, k3, fun p hp => (k4 p hp).stays fun {q c t} hq ht => ?_⟩, ?_, ?_, hCh, ?_⟩
      · have := hgr.size
        have := HU5.out.le
        simp
        omega
      · have q6 := KP6.out q c t hq
        have q0 : V0.heap[q]? = some (.cells c t (0, 0)) := by rw [hV0]; exact q6
        have q1 := (HBL.out.block _ (blk_lt q0)).trans q0
        have q3 := kp3 q c t q1 (by rintro rfl; exact absurd ht (by decide))
        rw [Below.heap_setCell _ _ _ _ (by
          show q ≠ gu
          rintro rfl
          rw [X1.out] at hq
          injection hq with hq
          injection hq with _ e2
          subst e2
          exact absurd ht (by decide))]
        exact q3
      · have e1 : nameC (labs ++ [(nm, its.length)]) = nameC labs ++ [.string ⟨nm.toArray⟩] := by simp [nameC]
        rw [e1]
        exact row_set hr' hguB
      · have m0 : LbR V0 mb (labs ++ [(nm, its.length)]) := by rw [hV0]; exact HM6.out
        have m1 := m0.go HBL.out
        obtain ⟨es, ck, hb⟩ := hmbV
        have m3 := m1.grown hgr (fun e => row_map HR1.out hb e.symm)
        exact m3.grown (gset W3 gu 2 _) (by intro e; injection e with e; exact hgm e)
      · refine ⟨hCh.os.trans H00.out.os, hCh.tape.trans H00.out.tape, hCh.output.trans H00.out.output, Nat.le_trans H00.out.size hCh.size, fun i hi => ?_⟩
        rw [hchain i (Nat.lt_of_lt_of_le hi H00.out.size) (by omega) (by omega) (fun e => by have := (HN5.out.lt i e.symm).1; omega)]
        exact H00.out.block i hi
    refine step_app_eq (by rfl) 51 (by rfl) _ _ _ _ (by rfl) _ _ (by rfl) (by rfl) HA.out ?_
    simp only [List.setIfInBounds_toArray, List.set_cons_zero, List.set_cons_succ]
    refine hK.out _ _ hT3 (fun hHeld => ?_)
    clear hK K HA
    refine take_at 9 52 (v := ?_) rfl rfl (by kernel_rfl) (by kernel_rfl) (by kernel_rfl) (fun _ _ _ h => h) rfl ?_ hHeld ?_
    rotate_left
    · intro w hSw
      go_simp
      try with_reducible rfl
    simp only [List.setIfInBounds_toArray, List.set_cons_zero, List.set_cons_succ]
    refine take_at 10 53 (v := ?_) rfl rfl (by kernel_rfl) (by kernel_rfl) (by kernel_rfl) (fun _ _ _ h => h) rfl ?_ hHeld ?_
    rotate_left
    · intro w hSw
      go_simp
      try with_reducible rfl
    simp only [List.setIfInBounds_toArray, List.set_cons_zero, List.set_cons_succ]
    refine wpAnyH_ready (rs := [11]) (by kernel_rfl) (by simp) ?_
    refine AllReadyH.cons rfl (fun K hK => ?_) AllReadyH.nil
    go_simp
    refine hK.out _ _ (by rw [Below.heap_setCell _ _ _ _ hne1]; exact hHeld) (fun _ => ?_)
    clear hK K y2 yf hHeld hT3
    refine wpAnyH_done (by kernel_rfl) ?_ _
    refine NoPanic.normal ?_
    clear hr' hgr kp3 hub3 HR1 HUB1 HBL HBN
    go_wp2_with fail
    obtain ⟨Wf, hWf⟩ : ∃ X, X = W3.setCell ⟨gu, 2, none⟩ (.slice ta (labs.length + 1) tc) := ⟨_, rfl⟩
    rw [← hWf] at HFIN ⊢
    clear hWf
    obtain ⟨hF1, hF2, hF3, hF4, hF5⟩ := HFIN.out
    have HF5 := Lib.hid hF5
    have HFA : Hid (∀ W', Below Wf.heap.size Wf W' → ∃ v' nv', Ending.returned (.tuple #[.slice ad2 rest.length cap2, .int .i64 0]) = .returned (.tuple #[v', .int .i64 0]) ∧ PReads w0 v' rest ∧ Below w0.heap.size w0 W' ∧ UR W' B gu (.slice none 0 0) ln nv' (.map (some mb)) pp pv rv its ∧ W'.ownsRow B 9 1 nv' (labs.length + 1) (nameC (labs ++ [(nm, its.length)])) ∧ LbR W' mb (labs ++ [(nm, its.length)]) ∧ Ch3 gu mb (Value.slice na labs.length nc).ownBlock w W') := fun W' hb =>
      ⟨_, _, rfl, HV5.out, hF5.trans (hb.mono hF5.size), hF1.go hb, Sc.owns_below hF2 hb (Nat.le_refl _), hF3.go hb, ⟨hb.os.trans hF4.os, hb.tape.trans hF4.tape, hb.output.trans hF4.output, Nat.le_trans hF4.size hb.size, fun i hi h1 h2 h3 => by rw [hb.block i (Nat.lt_of_lt_of_le hi hF4.size)]; exact hF4.block i hi h1 h2 h3⟩⟩
    clear hF1 hF2 hF3 hF4 hF5 HFIN HR0 HUB0 HR6 KP6 HG6 HM6
    rw [rounds_succ]
    go_wp2_with fail
    refine (HN3.out _ _ HF5.out HV5.out).mono ?_
    rintro e z1 ⟨⟨v1, rfl, hv1⟩, hb1⟩
    obtain ⟨ad1', cap1', rfl, _⟩ := id hv1
    have HY1 := Lib.hid hv1
    have HZ2 := Lib.hid hb1
    have HZ0 := Lib.hid (HF5.out.trans (HZ2.out.mono HF5.out.size))
    clear hv1 hb1
    go_wp2_with fail
    refine (HN4.out _ _ (HZ0.out.alloc HZ0.out.size _) HY1.out).mono ?_
    rintro e z2 ⟨⟨v2, rfl, hv2⟩, hb2⟩
    obtain ⟨ad3, cap3, rfl, _⟩ := hv2
    obtain ⟨hB2, hy2, xr⟩ := box_keep hb2
    have t0 : z2.cell? ⟨z1.heap.size, 0, none⟩ = some (.int .i64 xk) := blk_cell xr rfl
    have t1 : z2.cell? ⟨z1.heap.size, 1, none⟩ = some (.int .i64 xn) := blk_cell xr rfl
    have t2 : z2.cell? ⟨z1.heap.size, 2, none⟩ = some (.string xt) := blk_cell xr rfl
    have HQ2 := Lib.hid (HZ2.out.trans (hB2.mono HZ2.out.size))
    clear hb2 hB2 xr HZ2 HY1
    cases p1
    · go_wp2_with fail
      refine (HW3.out _).mono ?_
      rintro e z3 ⟨rfl, hb3⟩
      have HQ3 := Lib.hid (((HQ2.out.alloc HQ2.out.size _)).trans (hb3.mono (by have := HQ2.out.size; simp; omega)))
      clear hb3
      go_wp2_with fail
      go_ret2
      exact HFA.out _ HQ3.out
    · have hp2 : p2 = false := by simpa using HLB.out
      subst hp2
      go_wp2_with fail
      refine (HW3.out _).mono ?_
      rintro e z3 ⟨rfl, hb3⟩
      obtain ⟨hB3, hy3, yr⟩ := box_keep hb3
      have s0 : z3.cell? ⟨z2.heap.size, 0, none⟩ = some (.int .i64 yk) := blk_cell yr rfl
      have s1 : z3.cell? ⟨z2.heap.size, 1, none⟩ = some (.int .i64 yn) := blk_cell yr rfl
      have s2 : z3.cell? ⟨z2.heap.size, 2, none⟩ = some (.string yt) := blk_cell yr rfl
      have HQ3 := Lib.hid (HQ2.out.trans (hB3.mono HQ2.out.size))
      clear hb3 hB3 yr
      go_wp2_with fail
      refine (HS3.out _).mono ?_
      rintro e z4 ⟨rfl, hb4⟩
      have HQ4 := Lib.hid (HQ3.out.trans (hb4.mono HQ3.out.size))
      clear hb4
      go_wp2_with fail
      go_ret2
      exact HFA.out _ HQ4.out

end Go.Proofs.YtjmjhbdlbmnllaaGreatDoor
