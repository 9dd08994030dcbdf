/- farm.Do of each step; fair.Round, fair.Done. fair.Settle. fair.Play. -/
import Derived.Test.YtbpoiajpcahdhaaGreatDoorPut23
import Derived.Test.YtbpoiajpcahdhaaGreatDoorPut24
namespace Go.Proofs.YtbpoiajpcahdhaaGreatDoor.Wi
open Go.RowKit

theorem Do_tick (S : List UInt8 → Prop) (T n : Int) (v : Value) (f : Fm) (w : World) (hv : FV w v f) (hf : Fine S T f) (hT : T ≤ 999999999) (hW : WL w) :
    Calls Tryz.prog 6 #[v, .agg #[.int .i64 1, .int .i64 n]] w fun e w' => ∃ v', e = .returned (.tuple #[v', .int .i64 0]) ∧ FV w' v' (tickF f) ∧ Below w.heap.size w w' :=
  do_gen S T v 1 n 0 f (tickF f) w hv hf fun W B F gJ cJ gD cD wv hO h1 h2 hb => do_tick S T n B F gJ cJ gD cD wv f W hO hf hT (hW.below hb (Nat.le_refl _)) (Nat.lt_of_lt_of_le hW.sz h1) h2
/-- What answers are wanted of a farm's workers. -/
def Answers (S : List UInt8 → Prop) (U : Ms → Ms) (d : List Bool) (w : World) : Prop := ∀ m : Ms, m.kind = 1 → S m.data → live d m.worker = true → AnsAt w m (U m) ∧ (U m).data.length ≤ 1000000000
theorem Answers.later {S : List UInt8 → Prop} {U : Ms → Ms} {d : List Bool} {w w' : World} (h : Answers S U d w) (hb : Below w.heap.size w w') : Answers S U d w' := fun m h1 h2 h3 => ⟨(h m h1 h2 h3).1.later hb, (h m h1 h2 h3).2⟩
theorem ans_stay {w W V : World} {B : Nat} {m r : Ms} (h : AnsAt w m r) (hb : Below w.heap.size w W) (hB : w.heap.size ≤ B) (h2 : Below B W V) : AnsAt V m r := fun X dv hx => h X dv ((hb.trans (h2.mono hB)).trans (hx.mono (Nat.le_trans hb.size h2.size)))
theorem goF_cons {U : Ms → Ms} {f : Fm} (h : 0 < f.way.length) : goF U f = comeF U (dropF f 0) f.way[0] := by
  obtain ⟨b, js, d, wy⟩ := f
  cases wy with
  | nil => simp at h
  | cons x r => rfl
theorem Do_go (S : List UInt8 → Prop) (T : Int) (U : Ms → Ms) (v : Value) (f : Fm) (w : World) (hv : FV w v f) (hf : Fine S T f) (hn : 0 < f.way.length) (hW : WL w) (hA : Answers S U f.dead w) :
    Calls Tryz.prog 6 #[v, .agg #[.int .i64 2, .int .i64 0]] w fun e w' => ∃ v', e = .returned (.tuple #[v', .int .i64 0]) ∧ FV w' v' (goF U f) ∧ Below w.heap.size w w' := by
  rw [goF_cons hn]
  exact do_gen S T v 2 0 0 f _ w hv hf fun W B F gJ cJ gD cD wv hO h1 h2 hb => do_go S T 0 B F gJ cJ gD cD wv f U W hO hf hn h2 (hW.below hb (Nat.le_refl _)) (Nat.lt_of_lt_of_le hW.sz h1) (fun m h3 h4 h5 => ⟨fun V hV => ans_stay (hA m h4 ((hf.way _ (List.getElem_mem _)).2 m h3 h4) h5).1 hb h1 hV, (hA m h4 ((hf.way _ (List.getElem_mem _)).2 m h3 h4) h5).2⟩)
theorem Do_drop (S : List UInt8 → Prop) (T : Int) (v : Value) (f : Fm) (w : World) (hv : FV w v f) (hf : Fine S T f) (hn : 0 < f.way.length) :
    Calls Tryz.prog 6 #[v, .agg #[.int .i64 3, .int .i64 0]] w fun e w' => ∃ v', e = .returned (.tuple #[v', .int .i64 0]) ∧ FV w' v' (dropF f 0) ∧ Below w.heap.size w w' :=
  do_gen S T v 3 0 0 f _ w hv hf fun W B F gJ cJ gD cD wv hO _ h2 _ => do_drop 0 B F gJ cJ gD cD wv f W hO hf.wl hn h2
theorem Do_die (S : List UInt8 → Prop) (T : Int) (n : Nat) (v : Value) (f : Fm) (w : World) (hv : FV w v f) (hf : Fine S T f) (hn : n < f.dead.length) :
    Calls Tryz.prog 6 #[v, .agg #[.int .i64 5, .int .i64 n]] w fun e w' => ∃ v', e = .returned (.tuple #[v', .int .i64 0]) ∧ FV w' v' (dieF f n) ∧ Below w.heap.size w w' :=
  do_gen S T v 5 n 0 f _ w hv hf fun W B F gJ cJ gD cD wv hO _ h2 _ => do_die n B F gJ cJ gD cD wv f W hO hn h2

/-- A farm in the box of a parameter; a result's box behind it. -/
def PB (w W : World) (f : Fm) : Prop := ∃ gJ cJ gD cD wa wc, W.heap[w.heap.size]? = some (.cells (fV f gJ cJ gD cD (.slice wa f.way.length wc)) 27 (0, 0)) ∧ FR W 0 gJ cJ gD cD (.slice wa f.way.length wc) f ∧ Below w.heap.size w W ∧ ResB w W
theorem fv_shape {w : World} {v : Value} {f : Fm} (h : FV w v f) : ∃ gJ cJ gD cD wa wc, v = .agg (fV f gJ cJ gD cD (.slice wa f.way.length wc)) ∧ FR w 0 gJ cJ gD cD (.slice wa f.way.length wc) f := by
  obtain ⟨a, b, c, d, e, rfl, h⟩ := h
  obtain ⟨wa, wc, rfl⟩ := h.way_shape
  exact ⟨a, b, c, d, wa, wc, rfl, h⟩
/-- Behind a store of another farm in that box. -/
theorem pb_store {w W W2 : World} {f g : Fm} (h : PB w W f) (hb : Below W.heap.size W W2) {gJ cJ gD cD wc : Nat} {wa : Option Addr} (hr : FR W2 0 gJ cJ gD cD (.slice wa g.way.length wc) g) :
    PB w ((((W2.setCell ⟨w.heap.size, 0, none⟩ (.int .i64 g.base)).setCell ⟨w.heap.size, 1, none⟩ (.slice (some ⟨gJ, 0, none⟩) g.jobs.length cJ)).setCell ⟨w.heap.size, 2, none⟩ (.slice (some ⟨gD, 0, none⟩) g.dead.length cD)).setCell ⟨w.heap.size, 3, none⟩ (.slice wa g.way.length wc)) g := by
  obtain ⟨a, b, c, d, e1, e2, h1, h2, h3, h4⟩ := h
  have hbx := (hb.block _ (fblk_lt h1)).trans h1
  have hre := h4.next hb
  have hne : w.heap.size + 1 ≠ w.heap.size := by omega
  have s0 := fblk_set (i := 0) (v := .int .i64 g.base) hbx
  have s1 := fblk_set (i := 1) (v := .slice (some ⟨gJ, 0, none⟩) g.jobs.length cJ) s0
  have s2 := fblk_set (i := 2) (v := .slice (some ⟨gD, 0, none⟩) g.dead.length cD) s1
  have s3 := fblk_set (i := 3) (v := .slice wa g.way.length wc) s2
  exact ⟨gJ, cJ, gD, cD, wa, wc, s3, (((hr.setFarm hbx 0 _).setFarm s0 1 _).setFarm s1 2 _).setFarm s2 3 _, ((((bnext h3 hb).setCell (p := ⟨w.heap.size, 0, none⟩) (Nat.le_refl _) _).setCell (p := ⟨w.heap.size, 1, none⟩) (Nat.le_refl _) _).setCell (p := ⟨w.heap.size, 2, none⟩) (Nat.le_refl _) _).setCell (p := ⟨w.heap.size, 3, none⟩) (Nat.le_refl _) _, (((hre.set hne _ _).set hne _ _).set hne _ _).set hne _ _⟩

theorem PB.below {w W : World} {f : Fm} (h : PB w W f) : Below w.heap.size w W := by obtain ⟨_, _, _, _, _, _, _, _, h3, _⟩ := h; exact h3
theorem PB.next {w W W2 : World} {f : Fm} (h : PB w W f) (hb : Below W.heap.size W W2) : PB w W2 f := by
  obtain ⟨a, b, c, d, e1, e2, h1, h2, h3, h4⟩ := h
  exact ⟨a, b, c, d, e1, e2, (hb.block _ (fblk_lt h1)).trans h1, h2.go hb (Nat.le_refl _), bnext h3 hb, h4.next hb⟩
theorem pb_start {w : World} {f : Fm} {gJ cJ gD cD wc : Nat} {wa : Option Addr} (hr : FR w 0 gJ cJ gD cD (.slice wa f.way.length wc) f) : PB w ((w.alloc (.cells (fV f gJ cJ gD cD (.slice wa f.way.length wc)) 27)).alloc (.cells #[.int .i64 0, .slice none 0 0, .slice none 0 0, .slice none 0 0] 27)) f := by
  have hb := bnext (oalloc w (.cells (fV f gJ cJ gD cD (.slice wa f.way.length wc)) 27)) (oalloc _ (.cells #[.int .i64 0, .slice none 0 0, .slice none 0 0, .slice none 0 0] 27))
  refine ⟨gJ, cJ, gD, cD, wa, wc, ?_, hr.go hb (Nat.le_refl _), hb, ?_⟩
  · rw [Below.heap_alloc _ _ _ (by simp)]
    exact fblk_new w _ _
  · have e9 : (w.alloc (.cells (fV f gJ cJ gD cD (.slice wa f.way.length wc)) 27)).heap.size = w.heap.size + 1 := by simp
    unfold ResB
    rw [← e9]
    exact fblk_new _ _ _
theorem PB.fv {w W : World} {f : Fm} (h : PB w W f) : ∃ gJ cJ gD cD wa wc, W.cell? ⟨w.heap.size, 0, none⟩ = some (.int .i64 f.base) ∧ W.cell? ⟨w.heap.size, 1, none⟩ = some (.slice (some ⟨gJ, 0, none⟩) f.jobs.length cJ) ∧ W.cell? ⟨w.heap.size, 2, none⟩ = some (.slice (some ⟨gD, 0, none⟩) f.dead.length cD) ∧ W.cell? ⟨w.heap.size, 3, none⟩ = some (.slice wa f.way.length wc) ∧ (∀ i, W.frozen? ⟨w.heap.size, i, none⟩ = false) ∧ w.heap.size < W.heap.size ∧ FR W 0 gJ cJ gD cD (.slice wa f.way.length wc) f := by
  obtain ⟨a, b, c, d, e1, e2, h1, h2, h3, h4⟩ := h
  exact ⟨a, b, c, d, e1, e2, fblk_cell h1 rfl, fblk_cell h1 rfl, fblk_cell h1 rfl, fblk_cell h1 rfl, fun i => fblk_froz h1, fblk_lt h1, h2⟩
theorem PB.res {w W : World} {f : Fm} (h : PB w W f) : W.cell? ⟨w.heap.size + 1, 0, none⟩ = some (.int .i64 0) ∧ W.cell? ⟨w.heap.size + 1, 1, none⟩ = some (.slice none 0 0) ∧ W.cell? ⟨w.heap.size + 1, 2, none⟩ = some (.slice none 0 0) ∧ W.cell? ⟨w.heap.size + 1, 3, none⟩ = some (.slice none 0 0) ∧ (∀ i, W.frozen? ⟨w.heap.size + 1, i, none⟩ = false) ∧ w.heap.size + 1 < W.heap.size := by
  obtain ⟨a, b, c, d, e1, e2, h1, h2, h3, h4⟩ := h
  exact ⟨fblk_cell h4 rfl, fblk_cell h4 rfl, fblk_cell h4 rfl, fblk_cell h4 rfl, fun i => fblk_froz h4, fblk_lt h4⟩
/-- Behind the result's store. -/
theorem pb_out {w W : World} {f : Fm} (h : PB w W f) {gJ cJ gD cD wc : Nat} {wa : Option Addr} (hr : FR W 0 gJ cJ gD cD (.slice wa f.way.length wc) f) (v0 v1 v2 v3 : Value) :
    FR ((((W.setCell ⟨w.heap.size + 1, 0, none⟩ v0).setCell ⟨w.heap.size + 1, 1, none⟩ v1).setCell ⟨w.heap.size + 1, 2, none⟩ v2).setCell ⟨w.heap.size + 1, 3, none⟩ v3) 0 gJ cJ gD cD (.slice wa f.way.length wc) f ∧ Below w.heap.size w ((((W.setCell ⟨w.heap.size + 1, 0, none⟩ v0).setCell ⟨w.heap.size + 1, 1, none⟩ v1).setCell ⟨w.heap.size + 1, 2, none⟩ v2).setCell ⟨w.heap.size + 1, 3, none⟩ v3) := by
  obtain ⟨a, b, c, d, e1, e2, h1, h2, h3, h4⟩ := h
  exact ⟨(((hr.setFarm h4 0 v0).setFarm (fblk_set h4) 1 v1).setFarm (fblk_set (fblk_set h4)) 2 v2).setFarm (fblk_set (fblk_set (fblk_set h4))) 3 v3, (((h3.setCell (p := ⟨w.heap.size + 1, 0, none⟩) (Nat.le_succ _) v0).setCell (p := ⟨w.heap.size + 1, 1, none⟩) (Nat.le_succ _) v1).setCell (p := ⟨w.heap.size + 1, 2, none⟩) (Nat.le_succ _) v2).setCell (p := ⟨w.heap.size + 1, 3, none⟩) (Nat.le_succ _) v3⟩

set_option maxHeartbeats 4000000 in
set_option maxRecDepth 100000 in
theorem round_any (S : List UInt8 → Prop) (T : Int) (U : Ms → Ms) (hU : ∀ m, (U m).kind ≠ 1) (v : Value) (f : Fm) (w : World) (hv : FV w v f) (hf : Fine S T f) (hT : T ≤ 900000000) (hW : WL w) (hA : Answers S U f.dead w) :
    Calls Tryz.prog 9 #[v] w fun e w' => ∃ v', e = .returned v' ∧ FV w' v' (roundF U f) ∧ Below w.heap.size w w' := by
  obtain ⟨gJ, cJ, gD, cD, wa, wc, rfl, hr⟩ := fv_shape hv
  have HDT := Lib.hid fun W (hb : Below w.heap.size w W) => Do_tick S T 0 _ f W (hv.go hb) hf (by omega) (hW.below hb (Nat.le_refl _))
  have HP0 := Lib.hid (pb_start hr)
  clear hr
  unfold fV at *
  go_enter Tryz.func9, Tryz.ntmps9
  go_wp2_with fail
  refine (HDT.out _ HP0.out.below).mono ?_
  rintro e w1 ⟨v1, rfl, hv1, hb1⟩
  obtain ⟨gJ1, cJ1, gD1, cD1, wa1, wc1, rfl, hr1⟩ := fv_shape hv1
  have HP1 := Lib.hid (pb_store HP0.out hb1 hr1)
  obtain ⟨_, _, _, _, _, _, b0, b1, b2, b3, bf, bz, _⟩ := (HP0.out.next hb1).fv
  clear hb1 hr1 hv1 HP0 HDT
  unfold fV at *
  go_wp2_with fail
  clear b0 b1 b2 b3 bf bz
  have HL : Hid (∀ W fm, PB w W fm → Fine S (T + 1) fm → fm.dead = f.dead → 0 < fm.way.length → ∀ v, FV W v fm → Calls Tryz.prog 6 #[v, .agg #[.int .i64 2, .int .i64 0]] W fun e w' => ∃ v', e = .returned (.tuple #[v', .int .i64 0]) ∧ FV w' v' (goF U fm) ∧ Below W.heap.size W w') := fun W fm hp hfm hd hn v hv => Do_go S (T + 1) U v fm W hv hfm hn (hW.below hp.below (Nat.le_refl _)) (by rw [hd]; exact hA.later hp.below)
  have HI : Hid (Fine S (T + 1) (tickF f) ∧ goAll U (weight (tickF f)) (tickF f) = roundF U f ∧ (tickF f).dead = f.dead) := ⟨hf.tick, rfl, (tickF_len f).2.1⟩
  have HGS : Hid (∀ g fm, Fine S (T + 1) fm ∧ goAll U (g + 1) fm = roundF U f ∧ fm.dead = f.dead → 0 < fm.way.length → weight fm ≤ g + 1 → weight (goF U fm) ≤ g ∧ Fine S (T + 1) (goF U fm) ∧ goAll U g (goF U fm) = roundF U f ∧ (goF U fm).dead = f.dead) := fun g fm h hn hw => by
    have hne : fm.way ≠ [] := by intro e; rw [e] at hn; simp at hn
    have h2 := weight_go hU hne
    exact ⟨by omega, h.1.go hU, by rw [← goAll_step U hne]; exact h.2.1, (goF_len U fm).2.1.trans h.2.2⟩
  have HWP : Hid (∀ fm : Fm, 0 < fm.way.length → 1 ≤ weight fm) := fun fm hn => by
    have hne : fm.way ≠ [] := by intro e; rw [e] at hn; simp at hn
    have := weight_go hU hne
    omega
  have HEN : Hid (∀ g fm, goAll U g fm = roundF U f → ¬ 0 < fm.way.length → fm = roundF U f) := fun g fm h hn => by
    rw [goAll_end U g (List.eq_nil_of_length_eq_zero (by omega))] at h
    exact h
  obtain ⟨N, hN⟩ : ∃ N, weight (tickF f) = N := ⟨_, rfl⟩
  have HNN := Lib.hid hN
  rw [hN] at HI
  clear hN hA hW hf hv
  generalize tickF f = f1 at *
  obtain ⟨fR, hfR⟩ : ∃ fR, fR = roundF U f := ⟨_, rfl⟩
  rw [← hfR] at HI HEN
  simp only [← hfR] at HGS
  have HFR := Lib.hid hfR
  clear hfR
  go_loopg [] N (fun gg wr => ∃ fm, Hid (weight fm ≤ gg) ∧ Hid (PB w wr fm) ∧ Hid (Fine S (T + 1) fm ∧ goAll U gg fm = fR ∧ fm.dead = f.dead))
  case atStart => exact ⟨f1, Nat.le_of_eq HNN.out, HP1, HI⟩
  case round =>
    obtain ⟨fm, HWt, HP, HF⟩ := hrel
    clear HP1 HI HNN
    obtain ⟨gJ2, cJ2, gD2, cD2, wa2, wc2, b0, b1, b2, b3, bf, bz, hfr⟩ := HP.out.fv
    by_cases hn : 0 < fm.way.length
    · have hn1 : (0 : Int) < (fm.way.length : Int) := by omega
      have HC := Lib.hid (HL.out wr fm HP.out HF.out.1 HF.out.2.2 hn _ ⟨gJ2, cJ2, gD2, cD2, _, rfl, hfr⟩)
      clear hfr
      obtain ⟨g, rfl⟩ : ∃ g, gk = g + 1 := ⟨gk - 1, by have := HWP.out fm hn; have := HWt.out; omega⟩
      have HG := Lib.hid (HGS.out g fm HF.out hn HWt.out)
      generalize goF U fm = fm2 at *
      clear HWt HF HL HWP HGS HEN hn
      unfold fV at HC
      go_wp2_with fail
      refine HC.out.mono ?_
      rintro e w2 ⟨v2, rfl, hv2, hb2⟩
      obtain ⟨gJ3, cJ3, gD3, cD3, wa3, wc3, rfl, hr3⟩ := fv_shape hv2
      have HP2 := Lib.hid (pb_store HP.out hb2 hr3)
      obtain ⟨_, _, _, _, _, _, c0, c1, c2, c3, cf, cz, _⟩ := (HP.out.next hb2).fv
      clear hv2 hb2 hr3 b0 b1 b2 b3 bf bz HP HC
      unfold fV at *
      go_wp2_with fail
      go_roundg g
      case measure => omega
      case rel => exact ⟨fm2, HG.out.1, HP2, HG.out.2⟩
    · have hn1 : ¬ (0 : Int) < (fm.way.length : Int) := by omega
      obtain rfl := HEN.out gk fm HF.out.2.1 hn
      obtain ⟨r0, r1, r2, r3, rf, rz⟩ := HP.out.res
      have HO := Lib.hid fun v0 v1 v2 v3 => pb_out HP.out hfr v0 v1 v2 v3
      clear hfr HP HF HWt HL HWP HGS HEN
      go_wp2_with fail
      exact bodyPost_ret (v := .agg #[.int .i64 fm.base, .slice (some ⟨gJ2, 0, none⟩) fm.jobs.length cJ2, .slice (some ⟨gD2, 0, none⟩) fm.dead.length cD2, .slice wa2 fm.way.length wc2]) (by simp [results, Tryz.results9, go_sem, r0, r1, r2, r3]) rfl ⟨_, rfl, by rw [← HFR.out]; exact ⟨_, _, _, _, _, rfl, (HO.out _ _ _ _).1⟩, (HO.out _ _ _ _).2⟩

set_option maxHeartbeats 2000000 in
set_option maxRecDepth 100000 in
theorem done1_any (j : Jb) (sa oa : Option Addr) (sl sc ol oc : Nat) (w : World) : Calls Tryz.prog 16 #[.agg (jV j (.slice sa sl sc) (.slice oa ol oc))] w fun e w' => e = .returned (.bool (!j.done)) ∧ Below w.heap.size w w' := by
  have HA : Hid (∀ o, Below w.heap.size w (w.alloc o)) := fun o => oalloc w o
  obtain ⟨src, wk, tu, wa, dn, ob, er, pl⟩ := j
  unfold jV
  simp only
  go_enter Tryz.func16, Tryz.ntmps16
  go_wp2
  go_ret
  exact ⟨rfl, HA.out _⟩

theorem one_nil (a : Value) : (#[a] ++ #[] : Array Value) = #[a] := by simp
theorem done_eq (f : Fm) : (!(f.jobs.any fun j => !j.done)) = doneF f := by
  unfold doneF
  induction f.jobs with
  | nil => rfl
  | cons j l ih => cases h : j.done <;> simp_all

set_option maxHeartbeats 2000000 in
set_option maxRecDepth 100000 in
theorem done_any (v : Value) (f : Fm) (w : World) (hv : FV w v f) (hl : f.jobs.length ≤ 4) : Calls Tryz.prog 10 #[v] w fun e w' => e = .returned (.bool (doneF f)) ∧ Below w.heap.size w w' := by
  obtain ⟨gJ, cJ, gD, cD, wa, wc, rfl, hr⟩ := fv_shape hv
  have HA : Hid (∀ o, Below w.heap.size w (w.alloc o)) := fun o => oalloc w o
  have HC : Hid (∀ W, Below w.heap.size w W → Calls Tryz.prog 15 #[.slice (some ⟨gJ, 0, none⟩) f.jobs.length cJ, .func (.func 16) #[] #[]] W fun e w' => e = .returned (.bool (!doneF f)) ∧ Below w.heap.size w w') := fun W hb => by
    obtain ⟨cur, hcu, hrow⟩ := (hr.go hb (Nat.zero_le _)).jobs
    refine (contains_jobs 16 #[] (enters_of Tryz.func16 (by kernel_rfl) rfl) (fun j => !j.done) f.jobs gJ cJ cur W hcu hrow hl (fun j sa oa sl sc ol oc V hV => by rw [one_nil]; exact done1_any j sa oa sl sc ol oc V)).mono ?_
    rintro e w' ⟨rfl, hb2⟩
    exact ⟨by rw [← done_eq]; simp, bnext hb hb2⟩
  clear hr hv
  unfold fV
  generalize doneF f = b at *
  go_enter Tryz.func10, Tryz.ntmps10
  go_wp2_with fail
  refine (HC.out _ (HA.out _)).mono ?_
  rintro e w1 ⟨rfl, hb1⟩
  have HB1 := Lib.hid hb1
  clear hb1
  go_wp2_with fail
  go_ret
  exact ⟨ret_bool (by simp), HB1.out⟩

end Go.Proofs.YtbpoiajpcahdhaaGreatDoor.Wi

namespace Go.Proofs.YtbpoiajpcahdhaaGreatDoor.Wi
open Go.RowKit

theorem settle_done {U : Ms → Ms} (k : Nat) {f : Fm} (h : doneF f = true) : settleF U k f = (f, 0) := by
  cases k with
  | zero => rfl
  | succ k => unfold settleF; rw [if_pos h]
theorem settle_step {U : Ms → Ms} {k : Nat} {f : Fm} (h : doneF f = false) (hk : k < 60) : settleF U (60 - k) f = ((settleF U (60 - (k + 1)) (roundF U f)).1, (settleF U (60 - (k + 1)) (roundF U f)).2 + 1) := by
  rw [show 60 - k = (60 - (k + 1)) + 1 by omega]
  conv => lhs; unfold settleF
  rw [if_neg (by rw [h]; decide)]
/-- How far it has come. -/
def Sofar (U : Ms → Ms) (f : Fm) (k : Nat) (fm : Fm) : Prop := (settleF U 60 f).1 = (settleF U (60 - k) fm).1 ∧ (settleF U 60 f).2 = (settleF U (60 - k) fm).2 + k

set_option maxHeartbeats 4000000 in
set_option maxRecDepth 100000 in
theorem settle_any (S : List UInt8 → Prop) (T : Int) (U : Ms → Ms) (hU : ∀ m, (U m).kind ≠ 1) (v : Value) (f : Fm) (w : World) (hv : FV w v f) (hf : Fine S T f) (hT : T ≤ 800000000) (hW : WL w) (hA : Answers S U f.dead w) :
    Calls Tryz.prog 7 #[v] w fun e w' => ∃ v', e = .returned (.tuple #[v', .int .i64 (settleF U 60 f).2]) ∧ FV w' v' (settleF U 60 f).1 ∧ Below w.heap.size w w' := by
  obtain ⟨gJ, cJ, gD, cD, wa, wc, rfl, hr⟩ := fv_shape hv
  have HOW : Hid (∀ W, Below w.heap.size w W → Calls Tryz.prog 13 #[.agg (fV f gJ cJ gD cD (.slice wa f.way.length wc))] W fun e w' => ∃ v', e = .returned v' ∧ FV w' v' f ∧ Below W.heap.size W w') := fun W hb => by
    refine (own_any gJ cJ gD cD _ f W (hr.go hb (Nat.zero_le _)) hf.j1 hf.d1 hf.wl (fine_fit hf) (fine_fitw hf)).mono ?_
    rintro e w' ⟨a, b, c, d, e5, rfl, h1, h2⟩
    exact ⟨_, rfl, ⟨_, _, _, _, _, rfl, h1.go (Below.refl _ _) (Nat.zero_le _)⟩, h2⟩
  have HDN : Hid (∀ W fm v, PB w W fm → FV W v fm → fm.jobs.length ≤ 4 → Calls Tryz.prog 10 #[v] W fun e w' => e = .returned (.bool (doneF fm)) ∧ Below W.heap.size W w') := fun W fm v _ hv hl => done_any v fm W hv hl
  have HRO : Hid (∀ W fm v (k : Nat), PB w W fm → FV W v fm → Fine S (T + k) fm → k ≤ 60 → fm.dead = f.dead → Calls Tryz.prog 9 #[v] W fun e w' => ∃ v', e = .returned v' ∧ FV w' v' (roundF U fm) ∧ Below W.heap.size W w') := fun W fm v k hp hv hfm hk hd => round_any S (T + k) U hU v fm W hv hfm (by omega) (hW.below hp.below (Nat.le_refl _)) (by rw [hd]; exact hA.later hp.below)
  have HP0 := Lib.hid (pb_start hr)
  have HI : Hid (Fine S (T + (0 : Nat)) f) := by have : T + ((0 : Nat) : Int) = T := by omega
                                                 unfold Hid
                                                 rw [this]
                                                 exact hf
  have HFR : Hid (∀ (k : Nat) fm, Fine S (T + k) fm → Fine S (T + ((k + 1 : Nat) : Int)) (roundF U fm)) := fun k fm h => by
    have := h.round hU
    rw [show T + ((k + 1 : Nat) : Int) = T + k + 1 by omega]
    exact this
  have HRD : Hid (∀ fm, (roundF U fm).dead = fm.dead) := fun fm => (roundF_len U fm).2.1
  clear hr hA hW hf hv
  unfold fV at *
  go_enter Tryz.func7, Tryz.ntmps7
  go_wp2_with fail
  refine (HOW.out _ HP0.out.below).mono ?_
  rintro e w1 ⟨v1, rfl, hv1, hb1⟩
  obtain ⟨gJ1, cJ1, gD1, cD1, wa1, wc1, rfl, hr1⟩ := fv_shape hv1
  have HP1 := Lib.hid (pb_store HP0.out hb1 hr1)
  obtain ⟨_, _, _, _, _, _, b0, b1, b2, b3, bf, bz, _⟩ := (HP0.out.next hb1).fv
  clear hb1 hr1 hv1 HP0 HOW
  unfold fV at *
  go_wp2_with fail
  clear b0 b1 b2 b3 bf bz
  have HS0 : Hid (Sofar U f 0 f) := ⟨rfl, rfl⟩
  have HSN : Hid (∀ k fm, Sofar U f k fm → doneF fm = false → k < 60 → Sofar U f (k + 1) (roundF U fm)) := fun k fm h hd hk => by
    have e := settle_step (U := U) hd hk
    exact ⟨h.1.trans (by rw [e]), h.2.trans (by rw [e]; simp only; omega)⟩
  have HSE : Hid (∀ k fm, Sofar U f k fm → doneF fm = true ∨ k = 60 → (settleF U 60 f).1 = fm ∧ (settleF U 60 f).2 = k) := fun k fm h hd => by
    have e : settleF U (60 - k) fm = (fm, 0) := by
      rcases hd with hd | rfl
      · exact settle_done _ hd
      · rfl
    unfold Sofar at h
    rw [e] at h
    exact ⟨h.1, by rw [h.2]; simp⟩
  go_loopw [4] (fun i W => ∃ (k : Nat) (fm : Fm), k ≤ 60 ∧ i = .int .i64 k ∧ Hid (PB w W fm) ∧ Hid (Fine S (T + k) fm ∧ fm.dead = f.dead ∧ Sofar U f k fm)) (fun i _ => 60 - (intOf i).toNat)
  case atStart => exact ⟨0, f, by omega, rfl, HP1, HI.out, rfl, HS0.out⟩
  case round =>
    obtain ⟨k, fm, hk, rfl, HP, HF⟩ := hrel
    clear HP1 HI HS0
    obtain ⟨gJ2, cJ2, gD2, cD2, wa2, wc2, b0, b1, b2, b3, bf, bz, hfr⟩ := HP.out.fv
    have HC := Lib.hid (HDN.out wr fm _ HP.out ⟨gJ2, cJ2, gD2, cD2, _, rfl, hfr⟩ HF.out.1.j1)
    obtain ⟨b, hb⟩ : ∃ b, doneF fm = b := ⟨_, rfl⟩
    rw [hb] at HC
    clear hfr
    unfold fV at HC
    cases b
    · by_cases hlt : k < 60
      · have hk1 : (k : Int) < 60 := by omega
        have HN : Hid (∀ W, Below wr.heap.size wr W → Fine S (T + ((k + 1 : Nat) : Int)) (roundF U fm) ∧ (roundF U fm).dead = f.dead ∧ Sofar U f (k + 1) (roundF U fm)) := fun _ _ => ⟨HFR.out k fm HF.out.1, (HRD.out fm).trans HF.out.2.1, HSN.out k fm HF.out.2.2 hb hlt⟩
        have HR2 : Hid (∀ W, Below wr.heap.size wr W → ∃ gJ3 cJ3 gD3 cD3 wa3 wc3, W.cell? ⟨w.heap.size, 0, none⟩ = some (.int .i64 fm.base) ∧ W.cell? ⟨w.heap.size, 1, none⟩ = some (.slice (some ⟨gJ3, 0, none⟩) fm.jobs.length cJ3) ∧ W.cell? ⟨w.heap.size, 2, none⟩ = some (.slice (some ⟨gD3, 0, none⟩) fm.dead.length cD3) ∧ W.cell? ⟨w.heap.size, 3, none⟩ = some (.slice wa3 fm.way.length wc3) ∧ (∀ i, W.frozen? ⟨w.heap.size, i, none⟩ = false) ∧ w.heap.size < W.heap.size ∧ Hid (Calls Tryz.prog 9 #[.agg #[.int .i64 fm.base, .slice (some ⟨gJ3, 0, none⟩) fm.jobs.length cJ3, .slice (some ⟨gD3, 0, none⟩) fm.dead.length cD3, .slice wa3 fm.way.length wc3]] W fun e w' => ∃ v', e = .returned v' ∧ FV w' v' (roundF U fm) ∧ Below W.heap.size W w')) := fun W hW => by
          have hp := HP.out.next hW
          obtain ⟨a1, a2, a3, a4, a5, a6, h1, h2, h3, h4, h5, h6, h7⟩ := hp.fv
          exact ⟨a1, a2, a3, a4, a5, a6, h1, h2, h3, h4, h5, h6, HRO.out W fm _ k hp ⟨_, _, _, _, _, rfl, h7⟩ HF.out.1 hk HF.out.2.1⟩
        clear hb
        go_wp2_with fail
        refine HC.out.mono ?_
        rintro e w2 ⟨rfl, hb2⟩
        obtain ⟨gJ3, cJ3, gD3, cD3, wa3, wc3, c0, c1, c2, c3, cf, cz, HRC⟩ := HR2.out w2 hb2
        have HP2 := Lib.hid (HP.out.next hb2)
        have HN2 := Lib.hid (HN.out w2 hb2)
        clear hb2 b0 b1 b2 b3 bf bz HC HR2 HN HP
        go_wp2_with fail
        refine HRC.out.mono ?_
        rintro e w3 ⟨v3, rfl, hv3, hb3⟩
        obtain ⟨gJ4, cJ4, gD4, cD4, wa4, wc4, rfl, hr4⟩ := fv_shape hv3
        have HP3 := Lib.hid (pb_store HP2.out hb3 hr4)
        obtain ⟨_, _, _, _, _, _, d0, d1, d2, d3, df, dz, _⟩ := (HP2.out.next hb3).fv
        generalize roundF U fm = fm2 at *
        clear hv3 hb3 hr4 c0 c1 c2 c3 cf cz HRC HP2 HF
        unfold fV at *
        go_wp2_with fail
        exact ⟨⟨k + 1, fm2, by omega, by go_num, HP3, HN2⟩, by simp [intOf]; omega⟩
      · have HE := Lib.hid (HSE.out k fm HF.out.2.2 (.inr (by omega)))
        have hk1 : ¬ (k : Int) < 60 := by omega
        have HR2 : Hid (∀ W, Below wr.heap.size wr W → ∃ gJ3 cJ3 gD3 cD3 wa3 wc3, W.cell? ⟨w.heap.size, 0, none⟩ = some (.int .i64 fm.base) ∧ W.cell? ⟨w.heap.size, 1, none⟩ = some (.slice (some ⟨gJ3, 0, none⟩) fm.jobs.length cJ3) ∧ W.cell? ⟨w.heap.size, 2, none⟩ = some (.slice (some ⟨gD3, 0, none⟩) fm.dead.length cD3) ∧ W.cell? ⟨w.heap.size, 3, none⟩ = some (.slice wa3 fm.way.length wc3) ∧ (∀ i, W.frozen? ⟨w.heap.size, i, none⟩ = false) ∧ w.heap.size < W.heap.size ∧ W.cell? ⟨w.heap.size + 1, 0, none⟩ = some (.int .i64 0) ∧ W.cell? ⟨w.heap.size + 1, 1, none⟩ = some (.slice none 0 0) ∧ W.cell? ⟨w.heap.size + 1, 2, none⟩ = some (.slice none 0 0) ∧ W.cell? ⟨w.heap.size + 1, 3, none⟩ = some (.slice none 0 0) ∧ (∀ i, W.frozen? ⟨w.heap.size + 1, i, none⟩ = false) ∧ w.heap.size + 1 < W.heap.size ∧ Hid (∀ v0 v1 v2 v3, FR ((((W.setCell ⟨w.heap.size + 1, 0, none⟩ v0).setCell ⟨w.heap.size + 1, 1, none⟩ v1).setCell ⟨w.heap.size + 1, 2, none⟩ v2).setCell ⟨w.heap.size + 1, 3, none⟩ v3) 0 gJ3 cJ3 gD3 cD3 (.slice wa3 fm.way.length wc3) fm ∧ Below w.heap.size w ((((W.setCell ⟨w.heap.size + 1, 0, none⟩ v0).setCell ⟨w.heap.size + 1, 1, none⟩ v1).setCell ⟨w.heap.size + 1, 2, none⟩ v2).setCell ⟨w.heap.size + 1, 3, none⟩ v3))) := fun W hW => by
          have hp := HP.out.next hW
          obtain ⟨a1, a2, a3, a4, a5, a6, h1, h2, h3, h4, h5, h6, h7⟩ := hp.fv
          obtain ⟨r0, r1, r2, r3, rf, rz⟩ := hp.res
          exact ⟨a1, a2, a3, a4, a5, a6, h1, h2, h3, h4, h5, h6, r0, r1, r2, r3, rf, rz, fun v0 v1 v2 v3 => pb_out hp h7 v0 v1 v2 v3⟩
        clear hb HF HRO HDN HFR HRD HSN HSE
        go_wp2_with fail
        refine HC.out.mono ?_
        rintro e w2 ⟨rfl, hb2⟩
        obtain ⟨gJ3, cJ3, gD3, cD3, wa3, wc3, c0, c1, c2, c3, cf, cz, r0, r1, r2, r3, rf, rz, HO⟩ := HR2.out w2 hb2
        clear hb2 b0 b1 b2 b3 bf bz HC HR2 HP
        go_wp2_with fail
        exact bodyPost_ret (v := .tuple #[.agg #[.int .i64 fm.base, .slice (some ⟨gJ3, 0, none⟩) fm.jobs.length cJ3, .slice (some ⟨gD3, 0, none⟩) fm.dead.length cD3, .slice wa3 fm.way.length wc3], .int .i64 k]) (by simp [results, Tryz.results7, go_sem, r0, r1, r2, r3]) rfl ⟨_, by rw [HE.out.2], by rw [HE.out.1]; exact ⟨_, _, _, _, _, rfl, (HO.out _ _ _ _).1⟩, (HO.out _ _ _ _).2⟩
    · have HE := Lib.hid (HSE.out k fm HF.out.2.2 (.inl hb))
      have HR2 : Hid (∀ W, Below wr.heap.size wr W → ∃ gJ3 cJ3 gD3 cD3 wa3 wc3, W.cell? ⟨w.heap.size, 0, none⟩ = some (.int .i64 fm.base) ∧ W.cell? ⟨w.heap.size, 1, none⟩ = some (.slice (some ⟨gJ3, 0, none⟩) fm.jobs.length cJ3) ∧ W.cell? ⟨w.heap.size, 2, none⟩ = some (.slice (some ⟨gD3, 0, none⟩) fm.dead.length cD3) ∧ W.cell? ⟨w.heap.size, 3, none⟩ = some (.slice wa3 fm.way.length wc3) ∧ (∀ i, W.frozen? ⟨w.heap.size, i, none⟩ = false) ∧ w.heap.size < W.heap.size ∧ W.cell? ⟨w.heap.size + 1, 0, none⟩ = some (.int .i64 0) ∧ W.cell? ⟨w.heap.size + 1, 1, none⟩ = some (.slice none 0 0) ∧ W.cell? ⟨w.heap.size + 1, 2, none⟩ = some (.slice none 0 0) ∧ W.cell? ⟨w.heap.size + 1, 3, none⟩ = some (.slice none 0 0) ∧ (∀ i, W.frozen? ⟨w.heap.size + 1, i, none⟩ = false) ∧ w.heap.size + 1 < W.heap.size ∧ Hid (∀ v0 v1 v2 v3, FR ((((W.setCell ⟨w.heap.size + 1, 0, none⟩ v0).setCell ⟨w.heap.size + 1, 1, none⟩ v1).setCell ⟨w.heap.size + 1, 2, none⟩ v2).setCell ⟨w.heap.size + 1, 3, none⟩ v3) 0 gJ3 cJ3 gD3 cD3 (.slice wa3 fm.way.length wc3) fm ∧ Below w.heap.size w ((((W.setCell ⟨w.heap.size + 1, 0, none⟩ v0).setCell ⟨w.heap.size + 1, 1, none⟩ v1).setCell ⟨w.heap.size + 1, 2, none⟩ v2).setCell ⟨w.heap.size + 1, 3, none⟩ v3))) := fun W hW => by
        have hp := HP.out.next hW
        obtain ⟨a1, a2, a3, a4, a5, a6, h1, h2, h3, h4, h5, h6, h7⟩ := hp.fv
        obtain ⟨r0, r1, r2, r3, rf, rz⟩ := hp.res
        exact ⟨a1, a2, a3, a4, a5, a6, h1, h2, h3, h4, h5, h6, r0, r1, r2, r3, rf, rz, fun v0 v1 v2 v3 => pb_out hp h7 v0 v1 v2 v3⟩
      clear hb HF HRO HDN HFR HRD HSN HSE
      go_wp2_with fail
      refine HC.out.mono ?_
      rintro e w2 ⟨rfl, hb2⟩
      obtain ⟨gJ3, cJ3, gD3, cD3, wa3, wc3, c0, c1, c2, c3, cf, cz, r0, r1, r2, r3, rf, rz, HO⟩ := HR2.out w2 hb2
      clear hb2 b0 b1 b2 b3 bf bz HC HR2 HP
      go_wp2_with fail
      exact bodyPost_ret (v := .tuple #[.agg #[.int .i64 fm.base, .slice (some ⟨gJ3, 0, none⟩) fm.jobs.length cJ3, .slice (some ⟨gD3, 0, none⟩) fm.dead.length cD3, .slice wa3 fm.way.length wc3], .int .i64 k]) (by simp [results, Tryz.results7, go_sem, r0, r1, r2, r3]) rfl ⟨_, by rw [HE.out.2], by rw [HE.out.1]; exact ⟨_, _, _, _, _, rfl, (HO.out _ _ _ _).1⟩, (HO.out _ _ _ _).2⟩

end Go.Proofs.YtbpoiajpcahdhaaGreatDoor.Wi

namespace Go.Proofs.YtbpoiajpcahdhaaGreatDoor.Wi
open Go.RowKit

/-- Steps that lie somewhere. -/
def SL (w : World) (v : Value) (st : List (Int × Int)) : Prop := ∃ b o cap, v = .slice (some ⟨b, o, none⟩) st.length cap ∧ b < w.heap.size ∧ ∀ i (h : i < st.length), w.cell? ⟨b, o + i * 2, none⟩ = some (.int .i64 st[i].1) ∧ w.cell? ⟨b, o + i * 2 + 1, none⟩ = some (.int .i64 st[i].2)
theorem infoEr : (Tryz.prog.info? 28).map (fun i => (i.zero, i.size, i.bytes)) = some (some (.int .i64 0), 1, 8) := by kernel_rfl
def erCells (n : Nat) : Array Value := madeCells #[.int .i64 0] (n * 1)
theorem run_make_er (n : Nat) (hn : n ≤ 80) (w : World) : (Instr.makeSlice 42 (.int .i64 (n : Int)) (.int .i64 (n : Int))).run Tryz.prog w = .ok (.slice (some ⟨w.heap.size, 0, none⟩) n n) (w.alloc (.cells (erCells n) 28)) := by
  obtain ⟨i, hi, e⟩ := Option.map_eq_some_iff.1 infoEr
  simp only [Prod.mk.injEq] at e
  obtain ⟨h0, h1, h2⟩ := e
  have h := run_make w 42 28 i _ Tryz.underlying42 hi h0 .i64 .i64 n n (by omega) (by omega) (by rw [h2]; omega) (by omega)
  rw [h1, Int.toNat_natCast] at h
  exact h

theorem stay_oth {w : World} {q r i : Nat} {c d : Array Value} {t u : TypeId} {y z : Nat × Nat} {v : Value} (hq : w.heap[q]? = some (.cells c t y)) (hr : w.heap[r]? = some (.cells d u z)) (h : t ≠ u) : (w.setCell ⟨r, i, none⟩ v).heap[q]? = some (.cells c t y) := by
  rw [Below.heap_setCell _ _ _ _ (fblk_ne hq hr h)]
  exact hq
theorem BK.oth {w : World} {v u : Value} {l : List UInt8} {r i : Nat} {d : Array Value} {z : Nat × Nat} {t : TypeId} (h : BK w v l) (hr : w.heap[r]? = some (.cells d t z)) (ht : 5 ≠ t) : BK (w.setCell ⟨r, i, none⟩ u) v l := by
  rcases h with h | ⟨b, o, cap, cur, fz, h1, h2, h3, h4⟩
  · exact .inl h
  · exact .inr ⟨b, o, cap, cur, fz, h1, h2, stay_oth h3 hr ht, h4⟩
theorem FR.setErr {w : World} {B gJ cJ gD cD : Nat} {wv : Value} {f : Fm} (h : FR w B gJ cJ gD cD wv f) {r : Nat} {c : Array Value} (hr : w.heap[r]? = some (.cells c 28 (0, 0))) (i : Nat) (v : Value) : FR (w.setCell ⟨r, i, none⟩ v) B gJ cJ gD cD wv f := by
  obtain ⟨cu, h1, h2⟩ := h.jobs
  obtain ⟨du, h3, h4⟩ := h.dead
  obtain ⟨xs, h5, h6⟩ := h.way
  refine ⟨⟨cu, stay_oth h1 hr (by decide), fun k hk => ?_⟩, ⟨du, stay_oth h3 hr (by decide), h4⟩, ⟨xs, ⟨h5.1, ?_⟩, h6.1, fun k hk => ?_⟩, h.lJ, h.lD, h.cJ, h.cD⟩
  · obtain ⟨sv, ov, q1, q2, q3⟩ := h2 k hk
    exact ⟨sv, ov, q1, q2.oth hr (by decide), q3.oth hr (by decide)⟩
  · rcases h5.2 with e | ⟨g, cap, cur, e1, e2, e3, e4⟩
    · exact .inl e
    · exact .inr ⟨g, cap, cur, e1, e2, stay_oth e3 hr (by decide), e4⟩
  · obtain ⟨u, q1, q2⟩ := h6.2 k hk
    exact ⟨u, q1, q2.oth hr (by decide)⟩
/-- While steps are played. -/
structure PY (w W : World) (gF gE : Nat) (f : Fm) (n : Nat) (er : Nat → Int) (k : Nat) : Prop where
  bel : Below w.heap.size w W
  lF : w.heap.size < gF
  lE : w.heap.size < gE
  res : W.heap[w.heap.size]? = some (.cells #[.int .i64 0, .slice none 0 0, .slice none 0 0, .slice none 0 0] 27 (0, 0))
  box : ∃ gJ cJ gD cD wa wc, W.heap[gF]? = some (.cells (fV f gJ cJ gD cD (.slice wa f.way.length wc)) 27 (0, 0)) ∧ FR W 0 gJ cJ gD cD (.slice wa f.way.length wc) f
  errs : ∃ cur, W.heap[gE]? = some (.cells cur 28 (0, 0)) ∧ ∀ i, i < n → ∃ x, cur[i]? = some (.int .i64 x) ∧ (i < k → x = er i)
theorem PY.next {w W W2 : World} {gF gE n k : Nat} {f : Fm} {er : Nat → Int} (h : PY w W gF gE f n er k) (hb : Below W.heap.size W W2) : PY w W2 gF gE f n er k := by
  obtain ⟨a, b, c, d, e1, e2, h1, h2⟩ := h.box
  obtain ⟨cur, h3, h4⟩ := h.errs
  exact ⟨bnext h.bel hb, h.lF, h.lE, (hb.block _ (fblk_lt h.res)).trans h.res, ⟨a, b, c, d, e1, e2, (hb.block _ (fblk_lt h1)).trans h1, h2.go hb (Nat.le_refl _)⟩, cur, (hb.block _ (fblk_lt h3)).trans h3, h4⟩
/-- Behind a step: another farm in the box, its error in the list. -/
theorem PY.put {w W W2 : World} {gF gE n k : Nat} {f g : Fm} {er : Nat → Int} (h : PY w W gF gE f n er k) (hb : Below W.heap.size W W2) {gJ cJ gD cD wc : Nat} {wa : Option Addr} (hr : FR W2 0 gJ cJ gD cD (.slice wa g.way.length wc) g) :
    PY w (((((W2.setCell ⟨gF, 0, none⟩ (.int .i64 g.base)).setCell ⟨gF, 1, none⟩ (.slice (some ⟨gJ, 0, none⟩) g.jobs.length cJ)).setCell ⟨gF, 2, none⟩ (.slice (some ⟨gD, 0, none⟩) g.dead.length cD)).setCell ⟨gF, 3, none⟩ (.slice wa g.way.length wc)).setCell ⟨gE, k, none⟩ (.int .i64 (er k))) gF gE g n er (k + 1) := by
  have h := h.next hb
  have lF := h.lF
  have lE := h.lE
  obtain ⟨a, b, c, d, e1, e2, h1, h2⟩ := h.box
  obtain ⟨cur, h3, h4⟩ := h.errs
  have nr : w.heap.size ≠ gF := by omega
  have ne := fblk_ne h3 h1 (by decide)
  have nE : w.heap.size ≠ gE := by omega
  have s0 := fblk_set (i := 0) (v := .int .i64 g.base) h1
  have s1 := fblk_set (i := 1) (v := .slice (some ⟨gJ, 0, none⟩) g.jobs.length cJ) s0
  have s2 := fblk_set (i := 2) (v := .slice (some ⟨gD, 0, none⟩) g.dead.length cD) s1
  have s3 := fblk_set (i := 3) (v := .slice wa g.way.length wc) s2
  have x3 : ((((W2.setCell ⟨gF, 0, none⟩ (.int .i64 g.base)).setCell ⟨gF, 1, none⟩ (.slice (some ⟨gJ, 0, none⟩) g.jobs.length cJ)).setCell ⟨gF, 2, none⟩ (.slice (some ⟨gD, 0, none⟩) g.dead.length cD)).setCell ⟨gF, 3, none⟩ (.slice wa g.way.length wc)).heap[gE]? = some (.cells cur 28 (0, 0)) := by
    rw [Below.heap_setCell _ _ _ _ ne, Below.heap_setCell _ _ _ _ ne, Below.heap_setCell _ _ _ _ ne, Below.heap_setCell _ _ _ _ ne]
    exact h3
  refine ⟨((((h.bel.setCell (p := ⟨gF, 0, none⟩) (Nat.le_of_lt lF) _).setCell (p := ⟨gF, 1, none⟩) (Nat.le_of_lt lF) _).setCell (p := ⟨gF, 2, none⟩) (Nat.le_of_lt lF) _).setCell (p := ⟨gF, 3, none⟩) (Nat.le_of_lt lF) _).setCell (p := ⟨gE, k, none⟩) (Nat.le_of_lt lE) _, lF, lE, ?_, ⟨gJ, cJ, gD, cD, wa, wc, ?_, ((((hr.setFarm h1 0 _).setFarm s0 1 _).setFarm s1 2 _).setFarm s2 3 _).setErr x3 _ _⟩, _, fblk_set x3, fun i hi => ?_⟩
  · rw [Below.heap_setCell _ _ _ _ nE, Below.heap_setCell _ _ _ _ nr, Below.heap_setCell _ _ _ _ nr, Below.heap_setCell _ _ _ _ nr, Below.heap_setCell _ _ _ _ nr]
    exact h.res
  · rw [Below.heap_setCell _ _ _ _ ne.symm]
    exact s3
  · obtain ⟨x, hx, hxe⟩ := h4 i hi
    by_cases e : k = i
    · subst e
      have hl := (Array.getElem?_eq_some_iff.1 hx).1
      exact ⟨er k, by simp [hl], fun _ => rfl⟩
    · exact ⟨x, by rw [Array.getElem?_setIfInBounds_ne e]; exact hx, fun h => hxe (by omega)⟩
theorem PY.cells {w W : World} {gF gE n k : Nat} {f : Fm} {er : Nat → Int} (h : PY w W gF gE f n er k) : ∃ gJ cJ gD cD wa wc, W.cell? ⟨gF, 0, none⟩ = some (.int .i64 f.base) ∧ W.cell? ⟨gF, 1, none⟩ = some (.slice (some ⟨gJ, 0, none⟩) f.jobs.length cJ) ∧ W.cell? ⟨gF, 2, none⟩ = some (.slice (some ⟨gD, 0, none⟩) f.dead.length cD) ∧ W.cell? ⟨gF, 3, none⟩ = some (.slice wa f.way.length wc) ∧ (∀ i, W.frozen? ⟨gF, i, none⟩ = false) ∧ gF < W.heap.size ∧ (∀ i, W.frozen? ⟨gE, i, none⟩ = false) ∧ gE < W.heap.size ∧ (∀ i, i < n → ∃ x, W.cell? ⟨gE, i, none⟩ = some (.int .i64 x)) ∧ FR W 0 gJ cJ gD cD (.slice wa f.way.length wc) f := by
  obtain ⟨a, b, c, d, e1, e2, h1, h2⟩ := h.box
  obtain ⟨cur, h3, h4⟩ := h.errs
  exact ⟨a, b, c, d, e1, e2, fblk_cell h1 rfl, fblk_cell h1 rfl, fblk_cell h1 rfl, fblk_cell h1 rfl, fun i => fblk_froz h1, fblk_lt h1, fun i => fblk_froz h3, fblk_lt h3, fun i hi => by obtain ⟨x, hx, _⟩ := h4 i hi; exact ⟨x, fblk_cell h3 hx⟩, h2⟩

theorem py_start {w w1 : World} {f : Fm} {gJ cJ gD cD wc n : Nat} {wa : Option Addr} {er : Nat → Int} (hb : Below w.heap.size w w1) (hx : w1.heap[w.heap.size]? = some (.cells #[.int .i64 0, .slice none 0 0, .slice none 0 0, .slice none 0 0] 27 (0, 0))) (hr : FR w1 0 gJ cJ gD cD (.slice wa f.way.length wc) f) :
    PY w ((w1.alloc (.cells (fV f gJ cJ gD cD (.slice wa f.way.length wc)) 27)).alloc (.cells (erCells n) 28)) w1.heap.size (w1.heap.size + 1) f n er 0 := by
  have hb2 := bnext (oalloc w1 (.cells (fV f gJ cJ gD cD (.slice wa f.way.length wc)) 27)) (oalloc _ (.cells (erCells n) 28))
  have hl := fblk_lt hx
  have e9 : (w1.alloc (.cells (fV f gJ cJ gD cD (.slice wa f.way.length wc)) 27)).heap.size = w1.heap.size + 1 := by simp
  refine ⟨bnext hb hb2, hl, by omega, (hb2.block _ hl).trans hx, ⟨gJ, cJ, gD, cD, wa, wc, ?_, hr.go hb2 (Nat.le_refl _)⟩, erCells n, ?_, fun i hi => ⟨0, ?_, fun h => absurd h (Nat.not_lt_zero _)⟩⟩
  · rw [Below.heap_alloc _ _ _ (by simp)]
    exact fblk_new _ _ _
  · rw [← e9]
    exact fblk_new _ _ _
  · unfold erCells madeCells
    simp [hi, Nat.mod_one]

set_option maxHeartbeats 2000000 in
set_option maxRecDepth 100000 in
theorem play_any (l : List (List UInt8)) (v sv : Value) (base workers : Int) (st : List (Int × Int)) (fs : Nat → Fm) (er : Nat → Int) (w : World) (hv : LS w v l) (hx : wrongN l base workers = 0) (hs : SL w sv st) (hl : st.length ≤ 80) (h0 : fs 0 = newF l base workers.toNat)
    (hDo : ∀ k (h : k < st.length) W fv, Below w.heap.size w W → FV W fv (fs k) → Calls Tryz.prog 6 #[fv, .agg #[.int .i64 st[k].1, .int .i64 st[k].2]] W fun e w' => ∃ v', e = .returned (.tuple #[v', .int .i64 (er k)]) ∧ FV w' v' (fs (k + 1)) ∧ Below W.heap.size W w') :
    Calls Tryz.prog 8 #[v, .int .i64 base, .int .i64 workers, sv] w fun e w' => ∃ v' ea, e = .returned (.tuple #[v', .slice ea st.length st.length, .int .i64 0]) ∧ FV w' v' (fs st.length) ∧ Below w.heap.size w w' := by
  have HN : Hid (∀ W, Below w.heap.size w W → Calls Tryz.prog 5 #[v, .int .i64 base, .int .i64 workers] W fun e w' => ∃ v', e = .returned (.tuple #[v', .int .i64 0]) ∧ FV w' v' (fs 0) ∧ Below W.heap.size W w') := fun W hb => by
    rw [h0]
    exact new_ok l v base workers W (hv.go hb) hx
  have hmk := run_make_er st.length hl
  have HD := Lib.hid hDo
  have HSL := Lib.hid hs
  have hlq : ¬ (80 : Int) < st.length := by omega
  obtain ⟨ad, cap, rfl, -⟩ := id hv
  obtain ⟨sb, so, sc, rfl, -⟩ := id hs
  clear hv hs hDo h0 hx
  go_enter Tryz.func8, Tryz.ntmps8
  go_wp2_with fail
  refine (HN.out _ (oalloc w _)).mono ?_
  rintro e w1 ⟨v1, rfl, hv1, hb1⟩
  obtain ⟨gJ, cJ, gD, cD, wa, wc, rfl, hr⟩ := fv_shape hv1
  have hbx := (hb1.block _ (fblk_lt (fblk_new w #[.int .i64 0, .slice none 0 0, .slice none 0 0, .slice none 0 0] 27))).trans (fblk_new w _ _)
  have HB := Lib.hid (bnext (oalloc w _) hb1)
  have rz := fblk_lt hbx
  have HX := Lib.hid hbx
  have HR := Lib.hid hr
  clear hb1 hbx HN hr hv1
  unfold fV
  go_wp2_with fail
  go_loopw [36] (fun i W => ∃ k : Nat, k ≤ st.length ∧ i = .int .i64 k ∧ Hid (PY w W w1.heap.size (w1.heap.size + 1) (fs k) st.length er k)) (fun i _ => st.length - (intOf i).toNat)
  case atStart => exact ⟨0, Nat.zero_le _, rfl, py_start HB.out HX.out HR.out⟩
  case round =>
    obtain ⟨k, hk, rfl, HK⟩ := hrel
    clear HB HX HR hmk
    by_cases hlt : k < st.length
    · have hk1 : (k : Int) < st.length := by omega
      obtain ⟨b, o, c, ev, hbl, hcs⟩ := HSL.out
      injection ev with ev1 _ ev3
      injection ev1 with ev1
      injection ev1 with ev1 ev2 _
      subst ev1 ev2 ev3
      obtain ⟨s0, s1⟩ := hcs k hlt
      have s0 := (HK.out.bel.cell (p := ⟨sb, so + k * 2, none⟩) hbl).trans s0
      have s1 := (HK.out.bel.cell (p := ⟨sb, so + k * 2 + 1, none⟩) hbl).trans s1
      have sz := Nat.lt_of_lt_of_le hbl HK.out.bel.size
      obtain ⟨gJ2, cJ2, gD2, cD2, wa2, wc2, c0, c1, c2, c3, cf, cz, df, dz, dx, hr2⟩ := HK.out.cells
      have HCL : Hid (∀ W, Below wr.heap.size wr W → Calls Tryz.prog 6 #[.agg #[.int .i64 (fs k).base, .slice (some ⟨gJ2, 0, none⟩) (fs k).jobs.length cJ2, .slice (some ⟨gD2, 0, none⟩) (fs k).dead.length cD2, .slice wa2 (fs k).way.length wc2], .agg #[.int .i64 st[k].1, .int .i64 st[k].2]] W fun e w' => ∃ gJ3 cJ3 gD3 cD3 wa3 wc3, e = .returned (.tuple #[.agg #[.int .i64 (fs (k + 1)).base, .slice (some ⟨gJ3, 0, none⟩) (fs (k + 1)).jobs.length cJ3, .slice (some ⟨gD3, 0, none⟩) (fs (k + 1)).dead.length cD3, .slice wa3 (fs (k + 1)).way.length wc3], .int .i64 (er k)]) ∧
          (∃ x0 x1 x2 x3 x4, w'.cell? ⟨w1.heap.size, 0, none⟩ = some x0 ∧ w'.cell? ⟨w1.heap.size, 1, none⟩ = some x1 ∧ w'.cell? ⟨w1.heap.size, 2, none⟩ = some x2 ∧ w'.cell? ⟨w1.heap.size, 3, none⟩ = some x3 ∧ w'.cell? ⟨w1.heap.size + 1, k, none⟩ = some x4) ∧ (∀ i, w'.frozen? ⟨w1.heap.size, i, none⟩ = false) ∧ w1.heap.size < w'.heap.size ∧ (∀ i, w'.frozen? ⟨w1.heap.size + 1, i, none⟩ = false) ∧ w1.heap.size + 1 < w'.heap.size ∧
          Hid (PY w (((((w'.setCell ⟨w1.heap.size, 0, none⟩ (.int .i64 (fs (k + 1)).base)).setCell ⟨w1.heap.size, 1, none⟩ (.slice (some ⟨gJ3, 0, none⟩) (fs (k + 1)).jobs.length cJ3)).setCell ⟨w1.heap.size, 2, none⟩ (.slice (some ⟨gD3, 0, none⟩) (fs (k + 1)).dead.length cD3)).setCell ⟨w1.heap.size, 3, none⟩ (.slice wa3 (fs (k + 1)).way.length wc3)).setCell ⟨w1.heap.size + 1, k, none⟩ (.int .i64 (er k))) w1.heap.size (w1.heap.size + 1) (fs (k + 1)) st.length er (k + 1))) := fun W hb => by
        refine (HD.out k hlt W _ (bnext HK.out.bel hb) ⟨gJ2, cJ2, gD2, cD2, _, rfl, hr2.go hb (Nat.le_refl _)⟩).mono ?_
        rintro e w' ⟨v', rfl, hv', hb'⟩
        obtain ⟨gJ3, cJ3, gD3, cD3, wa3, wc3, rfl, hr3⟩ := fv_shape hv'
        have hp := HK.out.next (bnext hb hb')
        obtain ⟨_, _, _, _, _, _, y0, y1, y2, y3, yf, yz, zf, zz, zx, _⟩ := hp.cells
        obtain ⟨x4, hx4⟩ := zx k hlt
        exact ⟨gJ3, cJ3, gD3, cD3, wa3, wc3, rfl, ⟨_, _, _, _, _, y0, y1, y2, y3, hx4⟩, yf, yz, zf, zz, HK.out.put (bnext hb hb') hr3⟩
      have HAL : Hid (∀ o, Below wr.heap.size wr (wr.alloc o) ∧ Below wr.heap.size wr (wr.alloc o).drew) := fun o => ⟨oalloc _ _, (oalloc _ _).drew⟩
      clear hcs hr2 dx HK HD HSL
      go_wp2_with fail
      refine (HCL.out _ (HAL.out _).1).mono ?_
      rintro e w2 ⟨gJ3, cJ3, gD3, cD3, wa3, wc3, rfl, ⟨x0, x1, x2, x3, x4, y0, y1, y2, y3, y4⟩, yf, yz, zf, zz, HP⟩
      clear HCL HAL
      go_wp2_with fail
      exact ⟨⟨k + 1, by omega, by go_num, HP⟩, by simp [intOf]; omega⟩
    · have hk1 : ¬ (k : Int) < st.length := by omega
      have e : k = st.length := by omega
      subst e
      obtain ⟨gJ2, cJ2, gD2, cD2, wa2, wc2, c0, c1, c2, c3, cf, cz, df, dz, dx, hrow⟩ := HK.out.cells
      have hre := HK.out.res
      have hbl := HK.out.bel
      have r0 := fblk_cell (i := 0) (v := .int .i64 0) hre rfl
      have r1 := fblk_cell (i := 1) (v := .slice none 0 0) hre rfl
      have r2 := fblk_cell (i := 2) (v := .slice none 0 0) hre rfl
      have r3 := fblk_cell (i := 3) (v := .slice none 0 0) hre rfl
      have rf : ∀ i, wr.frozen? ⟨w.heap.size, i, none⟩ = false := fun i => fblk_froz hre
      have rz := fblk_lt hre
      have HR3 : Hid (∀ v0 v1 v2 v3, FR ((((wr.setCell ⟨w.heap.size, 0, none⟩ v0).setCell ⟨w.heap.size, 1, none⟩ v1).setCell ⟨w.heap.size, 2, none⟩ v2).setCell ⟨w.heap.size, 3, none⟩ v3) 0 gJ2 cJ2 gD2 cD2 (.slice wa2 (fs st.length).way.length wc2) (fs st.length) ∧ Below w.heap.size w ((((wr.setCell ⟨w.heap.size, 0, none⟩ v0).setCell ⟨w.heap.size, 1, none⟩ v1).setCell ⟨w.heap.size, 2, none⟩ v2).setCell ⟨w.heap.size, 3, none⟩ v3)) := fun v0 v1 v2 v3 =>
        ⟨(((hrow.setFarm hre 0 v0).setFarm (fblk_set hre) 1 v1).setFarm (fblk_set (fblk_set hre)) 2 v2).setFarm (fblk_set (fblk_set (fblk_set hre))) 3 v3, (((hbl.setCell (p := ⟨w.heap.size, 0, none⟩) (by show w.heap.size ≤ w.heap.size; omega) v0).setCell (p := ⟨w.heap.size, 1, none⟩) (by show w.heap.size ≤ w.heap.size; omega) v1).setCell (p := ⟨w.heap.size, 2, none⟩) (by show w.heap.size ≤ w.heap.size; omega) v2).setCell (p := ⟨w.heap.size, 3, none⟩) (by show w.heap.size ≤ w.heap.size; omega) v3⟩
      clear hre hrow hbl HK dx df HSL HD
      go_wp2_with fail
      exact bodyPost_ret (v := .tuple #[.agg #[.int .i64 (fs st.length).base, .slice (some ⟨gJ2, 0, none⟩) (fs st.length).jobs.length cJ2, .slice (some ⟨gD2, 0, none⟩) (fs st.length).dead.length cD2, .slice wa2 (fs st.length).way.length wc2], .slice (some ⟨w1.heap.size + 1, 0, none⟩) st.length st.length, .int .i64 0]) (by simp [results, Tryz.results8, go_sem, r0, r1, r2, r3]) rfl ⟨_, ⟨_, rfl⟩, ⟨_, _, _, _, _, rfl, (HR3.out _ _ _ _).1⟩, (HR3.out _ _ _ _).2⟩
end Go.Proofs.YtbpoiajpcahdhaaGreatDoor.Wi
