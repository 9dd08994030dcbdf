/- farm.lease: a job given to a worker. farm.tick: leases wait, and new ones are given. farm.end: what comes back. farm.work, farm.come: a message comes. -/
import Derived.Test.YtbpoiajpcahdhaaGreatDoorPut14
import Derived.Test.YtbpoiajpcahdhaaGreatDoorPut12
namespace Go.Proofs.YtbpoiajpcahdhaaGreatDoor.Wi
open Go.RowKit

theorem WL.stay {B : Nat} {w w' : World} (h : WL w) (hb : Below B w w') (hg : 0 < B) : WL w' where
  c0 := (hb.cell (p := ⟨0, 0, none⟩) hg).trans h.c0
  c1 := (hb.cell (p := ⟨0, 1, none⟩) hg).trans h.c1
  c2 := (hb.cell (p := ⟨0, 2, none⟩) hg).trans h.c2
  c3 := (hb.cell (p := ⟨0, 3, none⟩) hg).trans h.c3
  c4 := (hb.cell (p := ⟨0, 4, none⟩) hg).trans h.c4
  c5 := (hb.cell (p := ⟨0, 5, none⟩) hg).trans h.c5
  c6 := (hb.cell (p := ⟨0, 6, none⟩) hg).trans h.c6
  sz := Nat.lt_of_lt_of_le h.sz hb.size

/-- What a written job makes of a farm. -/
theorem FO.written {w W1 W2 : World} {B F gJ cJ gD cD : Nat} {wv : Value} {f : Fm} {cur : Array Value} {k : Nat} {j : Jb} {sv ov : Value} (h : FO w B F gJ cJ gD cD wv f) (hb : Below w.heap.size w W1) (hcu : w.heap[gJ]? = some (.cells cur 40 (0, 0))) (hk : k < f.jobs.length) (hB : B ≤ w.heap.size) (hj : JW W1 W2 gJ (k * 8) cur (jV j sv ov)) (hs : BK w sv j.src) (ho : BK w ov j.obj) :
    FW w W2 B F gJ cJ gD cD { f with jobs := f.jobs.set k j } ∧ FO W2 B F gJ cJ gD cD wv { f with jobs := f.jobs.set k j } := by
  have h1 := h.go hb
  have hc1 := (hb.block gJ (fblk_lt hcu)).trans hcu
  obtain ⟨cur', r1, r2, r3⟩ := hj.row
  have kf : KF W1 W2 := KF.own hc1 mine1 (Nat.le_of_eq hj.sg.size.symm) (fun q hq _ => hj.sg.blk q hq)
  have kf2 := (KF.of hb).trans kf
  have hO := h1.setJob (j := j) hc1 r1 (Nat.le_of_eq hj.sg.size.symm) (fun q hq _ => hj.sg.blk q hq) hk r3 ⟨sv, ov, r2, hs.keep kf2, ho.keep kf2⟩
  exact ⟨⟨⟨wv, hO⟩, (hb.mono hB).trans (hj.sg.below h.rows.lJ), kf2⟩, hO⟩

set_option maxHeartbeats 2000000 in
set_option maxRecDepth 100000 in
theorem lease_any (S : List UInt8 → Prop) (T : Int) (B F gJ cJ gD cD k : Nat) (wv : Value) (f : Fm) (w : World) (h : FO w B F gJ cJ gD cD wv f) (hk : k < f.jobs.length) (hf : Fine S T f) (hT : T ≤ 1000000000) (hW : WL w) (hg : 0 < B) (hB : B ≤ w.heap.size) :
    Calls Tryz.prog 38 #[.pointer (some ⟨F, 0, none⟩), .int .i64 (k : Int), .pointer (some ⟨gJ, k * 8, none⟩)] w fun e w' => e = .returned (.tuple #[]) ∧ FW w w' B F gJ cJ gD cD (leaseF f k f.jobs[k]) := by
  have HO := Lib.hid h
  obtain ⟨cur, hcu, hrow⟩ := h.rows.jobs
  obtain ⟨sv, ov, hj, hsv, hov⟩ := hrow k hk
  have hfj := (hf.job f.jobs[k] (List.getElem_mem _)).1
  have ht0 := hfj.t0
  have ht1 := hfj.t1
  have hk4 := hf.j1
  have HFR := Lib.hid (free_any B F gJ cJ gD cD wv f (f.jobs[k].turn + k) w h hf.j1 hf.d1 (by omega) (by omega))
  have HSR := Lib.hid hfj.sl
  have HWL := Lib.hid hf.wl
  have HL : Hid (∀ x, freeL f.jobs f.dead.length (f.jobs[k].turn + k) = x → leaseF f k f.jobs[k] = if x = -1 then f else sendF { f with jobs := f.jobs.set k (leasedJ x f.jobs[k]) } (leaseM k x f.jobs[k])) := fun x hx => by
    subst hx
    rfl
  generalize f.jobs[k] = j at *
  obtain ⟨x, hx⟩ : ∃ x, freeL f.jobs f.dead.length (j.turn + k) = x := ⟨_, rfl⟩
  have HL := Lib.hid (HL.out x hx)
  rw [hx] at HFR
  obtain ⟨sa, sc, rfl⟩ := hsv.slice
  obtain ⟨oa, oc, rfl⟩ := hov.slice
  have HS2 : Hid (∀ W1 W2, Below w.heap.size w W1 → JW W1 W2 gJ (k * 8) cur (jV (leasedJ x j) (.slice sa j.src.length sc) (.slice oa j.obj.length oc)) → FW w W2 B F gJ cJ gD cD { f with jobs := f.jobs.set k (leasedJ x j) } ∧ Calls Tryz.prog 45 #[.pointer (some ⟨F, 0, none⟩), msV (leaseM k x j) (.slice sa j.src.length sc)] W2.drew fun e w' => e = .returned (.tuple #[]) ∧ FW w w' B F gJ cJ gD cD (sendF { f with jobs := f.jobs.set k (leasedJ x j) } (leaseM k x j))) := fun W1 W2 hb hjw => by
    obtain ⟨h1, h2⟩ := FO.written h hb hcu hk hB hjw hsv hov
    have hd : Below W2.heap.size W2 W2.drew := (Below.refl _ _).drew
    have hb2 : Below B w W2.drew := below_go h1.bel hd (Nat.le_trans hB h1.bel.size)
    have hk2 := h1.kf.trans (KF.of hd)
    refine ⟨h1, (send_any B F gJ cJ gD cD wv _ _ (leaseM k x j) W2.drew (h2.go hd) ((hsv.keep hk2).rb) (by show j.src.length ≤ _; have := hfj.sl; omega) (Nat.le_trans hB hb2.size) hf.wl (hW.stay hb2 hg)).mono ?_⟩
    rintro e w' ⟨rfl, h3⟩
    exact ⟨rfl, FW.ahead hb2 hk2 h3⟩
  have HJC : Hid (∀ W1, Below w.heap.size w W1 → W1.heap[gJ]? = some (.cells cur 40 (0, 0)) ∧ JC W1 gJ (k * 8) j (.slice sa j.src.length sc) (.slice oa j.obj.length oc) ∧ JW W1 W1 gJ (k * 8) cur (jV j (.slice sa j.src.length sc) (.slice oa j.obj.length oc))) := fun W1 hb => by
    have hc1 := (hb.block gJ (fblk_lt hcu)).trans hcu
    exact ⟨hc1, jc_of hc1 hj, JW.start hc1 hj⟩
  have c2 := (jc_of hcu hj).c2
  have hgz := fblk_lt hcu
  have HF1 : Hid (∀ W1, Below w.heap.size w W1 → FW w W1 B F gJ cJ gD cD f) := fun W1 hb => (FW.of h).go hb hB
  clear h hcu hrow hj hsv hov hfj hW hf hx
  obtain ⟨P, hP⟩ : ∃ P, k * 8 = P := ⟨_, rfl⟩
  rw [hP] at HS2 HJC c2 ⊢
  have hkk : (0 : Int) ≤ (k : Int) ∧ (k : Int) < 4 := by omega
  obtain ⟨src, wk, tu, wa, dn, ob, er, pl⟩ := j
  unfold leasedJ leaseM msV jV at *
  simp only at *
  by_cases hx : x = -1
  · rw [if_pos hx] at HL
    have hx1 : (x == -1) = true := by simpa using hx
    clear hx HS2 HJC
    go_enter Tryz.func38, Tryz.ntmps38
    go_wp2_with fail
    refine HFR.out.mono ?_
    rintro e w1 ⟨rfl, hb1⟩
    have HW1 := Lib.hid (HF1.out w1 hb1)
    clear hb1
    go_wp2_with fail
    exact bodyPost_ret (v := .tuple #[]) (by simp [results, Tryz.results38, go_sem]) rfl ⟨rfl, by rw [HL.out]; exact HW1.out⟩
  · rw [if_neg hx] at HL
    have hx1 : (x == -1) = false := by simpa using hx
    clear hx HF1
    go_enter Tryz.func38, Tryz.ntmps38
    go_wp2_with fail
    refine HFR.out.mono ?_
    rintro e w1 ⟨rfl, hb1⟩
    have HB1 := Lib.hid hb1
    obtain ⟨hc1, ⟨d0, d1, d2, d3, d4, d5, d6, d7⟩, hjw⟩ := HJC.out w1 hb1
    have HJW := Lib.hid hjw
    have hf : ∀ i, w1.frozen? ⟨gJ, i, none⟩ = false := fun i => fblk_froz hc1
    have hz1 := fblk_lt hc1
    clear hb1 hjw hc1 HJC c2
    go_wp2_with fail
    obtain ⟨hfw, hcall⟩ := HS2.out w1 _ HB1.out (((HJW.out.set 1 (by decide) rfl (.int .i64 x)).set 3 (by decide) rfl (.int .i64 0)).set 2 (by decide) rfl (.int .i64 (tu + 1)))
    have HFW := Lib.hid hfw
    have HCALL := Lib.hid hcall
    clear hfw hcall HS2 HJW HB1
    obtain ⟨w2, hw2⟩ : ∃ w2, w2 = (((w1.setCell ⟨gJ, P + 1, none⟩ (.int .i64 x)).setCell ⟨gJ, P + 3, none⟩ (.int .i64 0)).setCell ⟨gJ, P + 2, none⟩ (.int .i64 (tu + 1))) := ⟨_, rfl⟩
    have g2 : w2.cell? ⟨gJ, P + 2, none⟩ = some (.int .i64 (tu + 1)) := by subst hw2; simp [go_sem, d2]
    have g0 : w2.cell? ⟨gJ, P, none⟩ = some (.slice sa src.length sc) := by subst hw2; simp [go_sem, d0]
    have gz : gJ < w2.heap.size := by subst hw2; simpa using hz1
    rw [← hw2] at HFW HCALL ⊢
    clear hw2 d0 d1 d2 d3 d4 d5 d6 d7 hf hz1 HFR
    go_region_with (refine HCALL.out.mono ?_; rintro e w4 ⟨rfl, h4⟩)
    all_goals exact bodyPost_end (v := .tuple #[]) (by simp [results, Tryz.results38, go_sem]) rfl ⟨rfl, by rw [HL.out]; exact h4⟩

end Go.Proofs.YtbpoiajpcahdhaaGreatDoor.Wi

namespace Go.Proofs.YtbpoiajpcahdhaaGreatDoor.Wi
open Go.RowKit

def waitAt (f : Fm) (k : Nat) : Fm := match f.jobs[k]? with
  | none => f
  | some j => { f with jobs := f.jobs.set k (waitO j) }
/-- The first k jobs have waited. -/
def waitsK (f : Fm) : Nat → Fm
  | 0 => f
  | k + 1 => waitAt (waitsK f k) k
theorem waitAt_len (f : Fm) (k : Nat) : (waitAt f k).jobs.length = f.jobs.length ∧ (waitAt f k).dead = f.dead ∧ (waitAt f k).base = f.base ∧ (waitAt f k).way = f.way := by
  unfold waitAt
  split
  · exact ⟨rfl, rfl, rfl, rfl⟩
  · exact ⟨by simp, rfl, rfl, rfl⟩
theorem waitAt_at (f : Fm) (k i : Nat) : (waitAt f k).jobs[i]? = if i = k then f.jobs[i]?.map waitO else f.jobs[i]? := by
  unfold waitAt
  split
  · rename_i h
    split
    · rename_i e; rw [e, h]; rfl
    · rfl
  · rename_i j h
    rw [List.getElem?_set]
    by_cases e : k = i
    · subst e
      rw [if_pos rfl, if_pos rfl, h, if_pos (List.getElem?_eq_some_iff.1 h).1]
      rfl
    · rw [if_neg e, if_neg (fun h => e h.symm)]
theorem waitsK_len (f : Fm) : ∀ k, (waitsK f k).jobs.length = f.jobs.length ∧ (waitsK f k).dead = f.dead ∧ (waitsK f k).base = f.base ∧ (waitsK f k).way = f.way
  | 0 => ⟨rfl, rfl, rfl, rfl⟩
  | k + 1 => by
    have h := waitsK_len f k
    have g := waitAt_len (waitsK f k) k
    exact ⟨g.1.trans h.1, g.2.1.trans h.2.1, g.2.2.1.trans h.2.2.1, g.2.2.2.trans h.2.2.2⟩
theorem waitsK_at (f : Fm) (i : Nat) : ∀ k, (waitsK f k).jobs[i]? = if i < k then f.jobs[i]?.map waitO else f.jobs[i]?
  | 0 => by simp [waitsK]
  | k + 1 => by
    have h := waitsK_at f i k
    show (waitAt (waitsK f k) k).jobs[i]? = _
    rw [waitAt_at, h]
    by_cases h1 : i = k
    · rw [if_pos h1, if_neg (by omega), if_pos (by omega)]
    · rw [if_neg h1]
      by_cases h2 : i < k
      · rw [if_pos h2, if_pos (by omega)]
      · rw [if_neg h2, if_neg (by omega)]
theorem waitsK_all (f : Fm) : waitsK f f.jobs.length = waitsF f := by
  have h := waitsK_len f f.jobs.length
  have hj : (waitsK f f.jobs.length).jobs = f.jobs.map waitO := by
    apply List.ext_getElem?
    intro i
    rw [waitsK_at, List.getElem?_map]
    split
    · rfl
    · rw [List.getElem?_eq_none (by omega)]; rfl
  unfold waitsF
  rw [← hj, ← h.2.1, ← h.2.2.1, ← h.2.2.2]
theorem waitsK_fine {S : List UInt8 → Prop} {T : Int} {f : Fm} (h : Fine S T f) (k : Nat) : Fine S T (waitsK f k) := by
  have hl := waitsK_len f k
  refine ⟨by rw [hl.1]; exact h.j0, by rw [hl.1]; exact h.j1, by rw [hl.2.1]; exact h.d0, by rw [hl.2.1]; exact h.d1, by rw [hl.2.2.2]; exact h.wl, fun j hj => ?_, by rw [hl.2.2.2]; exact h.way⟩
  obtain ⟨i, hi⟩ := List.mem_iff_getElem?.1 hj
  rw [waitsK_at] at hi
  split at hi
  · cases hh : f.jobs[i]? with
    | none => rw [hh] at hi; cases hi
    | some x =>
      rw [hh] at hi
      injection hi with hi
      subst hi
      have hx := h.job x (List.mem_of_getElem? hh)
      rw [waitO_src]
      exact ⟨hx.1.waited, hx.2⟩
  · exact h.job j (List.mem_of_getElem? hi)

theorem ent_tick1 : ∀ args w, (callFunc 34 args).run Tryz.prog w = .ok (.enter 34 args) w := enters_of Tryz.func34 (by kernel_rfl) rfl
theorem ent_tick2 : ∀ args w, (callFunc 37 args).run Tryz.prog w = .ok (.enter 37 args) w := enters_of Tryz.func37 (by kernel_rfl) rfl
theorem two_nil (a b : Value) : (#[a, b] ++ #[] : Array Value) = #[a, b] := by simp
theorem two_one (a b c : Value) : (#[a, b] ++ #[c] : Array Value) = #[a, b, c] := by simp

/-- Leases wait. -/
theorem pass1 (S : List UInt8 → Prop) (T : Int) (B F gJ cJ gD cD : Nat) (wv : Value) (f : Fm) (w : World) (h : FO w B F gJ cJ gD cD wv f) (hf : Fine S T f) (hB : B ≤ w.heap.size) :
    Calls Tryz.prog 33 #[.pointer (some ⟨F, 0, none⟩), .func (.func 34) #[] #[]] w fun e w' => e = .returned (.tuple #[]) ∧ FW w w' B F gJ cJ gD cD (waitsF f) := by
  have key := each_any 34 #[] ent_tick1 (waitsK f) B F gJ cJ gD cD f.jobs.length w (fun k => (waitsK_len f k).1) hf.j1 hB ⟨wv, h⟩ ?_ ?_
  · rw [waitsK_all] at key
    exact key
  · intro k hk W wv' hO hb hkf hop
    rw [two_nil]
    have hk2 : k < (waitsK f k).jobs.length := by rw [(waitsK_len f k).1]; exact hk
    obtain ⟨cur, hcu, hrow⟩ := hO.rows.jobs
    obtain ⟨sv, ov, hj, hsv, hov⟩ := hrow k hk2
    obtain ⟨sa, sc, rfl⟩ := hsv.slice
    obtain ⟨oa, oc, rfl⟩ := hov.slice
    have hfj := ((waitsK_fine hf k).job _ (List.getElem_mem hk2)).1
    refine (tick1_any _ (k : Int) gJ (k * 8) cur sa oa _ sc _ oc W hcu hj hfj.a0 hfj.a1).mono ?_
    rintro e w' ⟨rfl, w1, hb1, hjw⟩
    refine ⟨rfl, ?_⟩
    have e1 : (if heldJ (waitsK f k).jobs[k] = true then waitJ (waitsK f k).jobs[k] else (waitsK f k).jobs[k]) = waitO (waitsK f k).jobs[k] := by
      unfold waitO
      rw [hop]
      simp
    rw [e1] at hjw
    have e3 : (waitO (waitsK f k).jobs[k]).obj = (waitsK f k).jobs[k].obj := by
      unfold waitO waitJ
      split
      · split <;> rfl
      · rfl
    have := (FO.written hO hb1 hcu hk2 (Nat.le_trans hB hb.size) hjw (by rw [waitO_src]; exact hsv) (by rw [e3]; exact hov)).1
    have e2 : waitsK f (k + 1) = { waitsK f k with jobs := (waitsK f k).jobs.set k (waitO (waitsK f k).jobs[k]) } := by
      show waitAt (waitsK f k) k = _
      unfold waitAt
      rw [List.getElem?_eq_getElem hk2]
    rw [e2]
    exact this
  · intro k hk hd
    have hk2 : k < (waitsK f k).jobs.length := by rw [(waitsK_len f k).1]; exact hk
    show waitAt (waitsK f k) k = _
    unfold waitAt
    rw [List.getElem?_eq_getElem hk2]
    have e : waitO (waitsK f k).jobs[k] = (waitsK f k).jobs[k] := by
      unfold waitO
      rw [if_neg (by rw [hd]; simp)]
    simp only [e, List.set_getElem_self]

set_option maxHeartbeats 2000000 in
set_option maxRecDepth 100000 in
theorem tick2_any (S : List UInt8 → Prop) (T : Int) (B F gJ cJ gD cD k gb : Nat) (wv : Value) (f : Fm) (w : World) (h : FO w B F gJ cJ gD cD wv f) (hb : w.heap[gb]? = some (.cells #[.pointer (some ⟨F, 0, none⟩)] 51 (0, 0))) (hk : k < f.jobs.length) (hf : Fine S T f) (hT : T ≤ 1000000000) (hW : WL w) (hg : 0 < B) (hB : B ≤ w.heap.size) :
    Calls Tryz.prog 37 #[.int .i64 (k : Int), .pointer (some ⟨gJ, k * 8, none⟩), .pointer (some ⟨gb, 0, none⟩)] w fun e w' => e = .returned (.tuple #[]) ∧ FW w w' B F gJ cJ gD cD (if heldJ f.jobs[k] = false then leaseF f k f.jobs[k] else f) := by
  obtain ⟨cur, hcu, hrow⟩ := h.rows.jobs
  obtain ⟨sv, ov, hj, hsv, hov⟩ := hrow k hk
  obtain ⟨sa, sc, rfl⟩ := hsv.slice
  obtain ⟨oa, oc, rfl⟩ := hov.slice
  have HHE := Lib.hid fun W => held_any f.jobs[k] sa oa f.jobs[k].src.length sc f.jobs[k].obj.length oc W
  have hJC := jc_of hcu hj
  have hz := fblk_lt hcu
  have HLE : Hid (∀ W, Below w.heap.size w W → Calls Tryz.prog 38 #[.pointer (some ⟨F, 0, none⟩), .int .i64 (k : Int), .pointer (some ⟨gJ, k * 8, none⟩)] W fun e w' => e = .returned (.tuple #[]) ∧ FW w w' B F gJ cJ gD cD (leaseF f k f.jobs[k])) := fun W hbw => by
    refine (lease_any S T B F gJ cJ gD cD k wv f W (h.go hbw) hk hf hT (hW.below hbw (Nat.le_refl _)) hg (Nat.le_trans hB hbw.size)).mono ?_
    rintro e w' ⟨rfl, h3⟩
    exact ⟨rfl, FW.ahead (hbw.mono hB) (KF.of hbw) h3⟩
  have HF1 : Hid (∀ W1, Below w.heap.size w W1 → FW w W1 B F gJ cJ gD cD f) := fun W1 hbw => (FW.of h).go hbw hB
  have HBX := Lib.hid hb
  have hzb := fblk_lt hb
  obtain ⟨b, hb1⟩ : ∃ b, heldJ f.jobs[k] = b := ⟨_, rfl⟩
  rw [hb1] at HHE ⊢
  clear h hcu hrow hj hsv hov hf hW hb1 hb
  generalize leaseF f k f.jobs[k] = f2 at *
  generalize f.jobs[k] = j at *
  obtain ⟨P, hP⟩ : ∃ P, k * 8 = P := ⟨_, rfl⟩
  rw [hP] at HLE hJC ⊢
  obtain ⟨src, wk, tu, wa, dn, ob, er, pl⟩ := j
  obtain ⟨d0, d1, d2, d3, d4, d5, d6, d7⟩ := hJC
  unfold jV at *
  simp only at *
  cases b
  all_goals
    go_enter Tryz.func37, Tryz.ntmps37
    go_wp2_with fail
    refine (HHE.out _).mono ?_
    rintro e w1 ⟨rfl, hb1⟩
    have HB1 := Lib.hid hb1
    have e0 : w1.cell? ⟨gb, 0, none⟩ = some (.pointer (some ⟨F, 0, none⟩)) := fblk_cell ((hb1.block _ hzb).trans HBX.out) rfl
    have hzb1 : gb < w1.heap.size := Nat.lt_of_lt_of_le hzb hb1.size
    clear hb1 d0 d1 d2 d3 d4 d5 d6 d7 HHE
    go_wp2_with fail
  · refine (HLE.out _ HB1.out).mono ?_
    rintro e w2 ⟨rfl, hj⟩
    have HJ := Lib.hid hj
    clear hj
    go_wp2_with fail
    exact bodyPost_end (v := .tuple #[]) (by simp [results, Tryz.results37, go_sem]) rfl ⟨rfl, HJ.out⟩
  · exact bodyPost_end (v := .tuple #[]) (by simp [results, Tryz.results37, go_sem]) rfl ⟨rfl, HF1.out _ HB1.out⟩

theorem not_mine_pf : ¬ Mine 51 := by unfold Mine; decide
/-- New leases are given. -/
theorem pass2 (S : List UInt8 → Prop) (T : Int) (B F gJ cJ gD cD gb : Nat) (wv : Value) (f : Fm) (w : World) (h : FO w B F gJ cJ gD cD wv f) (hb : w.heap[gb]? = some (.cells #[.pointer (some ⟨F, 0, none⟩)] 51 (0, 0))) (hf : Fine S T f) (hT : T ≤ 999999999) (hW : WL w) (hg : 0 < B) (hB : B ≤ w.heap.size) :
    Calls Tryz.prog 33 #[.pointer (some ⟨F, 0, none⟩), .func (.func 37) #[] #[.pointer (some ⟨gb, 0, none⟩)]] w fun e w' => e = .returned (.tuple #[]) ∧ FW w w' B F gJ cJ gD cD (leasesK f f.jobs.length) := by
  refine each_any 37 #[.pointer (some ⟨gb, 0, none⟩)] ent_tick2 (leasesK f) B F gJ cJ gD cD f.jobs.length w (fun k => (leasesK_len f k).1) hf.j1 hB ⟨wv, h⟩ ?_ ?_
  · intro k hk W wv' hO hbl hkf hop
    rw [two_one]
    have hk2 : k < (leasesK f k).jobs.length := by rw [(leasesK_len f k).1]; exact hk
    refine (tick2_any S (T + 1) B F gJ cJ gD cD k gb wv' (leasesK f k) W hO (hkf.blk _ _ _ _ hb not_mine_pf) hk2 (leasesK_fine hf.two k).fine (by omega) (hW.stay hbl hg) hg (Nat.le_trans hB hbl.size)).mono ?_
    rintro e w' ⟨rfl, h3⟩
    refine ⟨rfl, ?_⟩
    have e2 : leasesK f (k + 1) = if heldJ (leasesK f k).jobs[k] = false then leaseF (leasesK f k) k (leasesK f k).jobs[k] else leasesK f k := by
      show leaseAt (leasesK f k) k = _
      unfold leaseAt
      rw [List.getElem?_eq_getElem hk2]
      simp only [hop, true_and]
    rw [e2]
    exact h3
  · intro k hk hd
    have hk2 : k < (leasesK f k).jobs.length := by rw [(leasesK_len f k).1]; exact hk
    show leaseAt (leasesK f k) k = _
    unfold leaseAt
    rw [List.getElem?_eq_getElem hk2]
    simp only [hd]
    rw [if_neg (by simp)]

set_option maxHeartbeats 2000000 in
set_option maxRecDepth 100000 in
theorem tick_any (S : List UInt8 → Prop) (T : Int) (B F gJ cJ gD cD : Nat) (wv : Value) (f : Fm) (w : World) (h : FO w B F gJ cJ gD cD wv f) (hf : Fine S T f) (hT : T ≤ 999999999) (hW : WL w) (hg : 0 < B) (hB : B ≤ w.heap.size) :
    Calls Tryz.prog 22 #[.pointer (some ⟨F, 0, none⟩)] w fun e w' => e = .returned (.tuple #[]) ∧ FW w w' B F gJ cJ gD cD (tickF f) := by
  have hA := oalloc w (.cells #[.pointer (some ⟨F, 0, none⟩)] 51)
  have hN := fblk_new w #[.pointer (some ⟨F, 0, none⟩)] 51
  have H1 := Lib.hid (pass1 S T B F gJ cJ gD cD wv f _ (h.go hA) hf (Nat.le_trans hB hA.size))
  have H2 : Hid (∀ w1, FW (w.alloc (.cells #[.pointer (some ⟨F, 0, none⟩)] 51)) w1 B F gJ cJ gD cD (waitsF f) → Calls Tryz.prog 33 #[.pointer (some ⟨F, 0, none⟩), .func (.func 37) #[] #[.pointer (some ⟨w.heap.size, 0, none⟩)]] w1 fun e w' => e = .returned (.tuple #[]) ∧ FW w w' B F gJ cJ gD cD (tickF f)) := fun w1 h1 => by
    obtain ⟨wv1, hO⟩ := h1.own
    have hbl : Below B w w1 := (hA.mono hB).trans h1.bel
    refine (pass2 S T B F gJ cJ gD cD w.heap.size wv1 (waitsF f) w1 hO (h1.kf.blk _ _ _ _ hN not_mine_pf) hf.waits hT (hW.stay hbl hg) hg (Nat.le_trans hB hbl.size)).mono ?_
    rintro e w' ⟨rfl, h3⟩
    refine ⟨rfl, ?_⟩
    have e : tickF f = leasesK (waitsF f) (waitsF f).jobs.length := by unfold tickF waitsF; simp
    rw [e]
    exact FW.ahead hbl ((KF.of hA).trans h1.kf) h3
  have HX : Hid (∀ w1, FW (w.alloc (.cells #[.pointer (some ⟨F, 0, none⟩)] 51)) w1 B F gJ cJ gD cD (waitsF f) → w1.heap[w.heap.size]? = some (.cells #[.pointer (some ⟨F, 0, none⟩)] 51 (0, 0))) := fun w1 h1 => h1.kf.blk _ _ _ _ hN not_mine_pf
  clear h hf hW hA hN
  go_enter Tryz.func22, Tryz.ntmps22
  go_wp2_with fail
  refine H1.out.mono ?_
  rintro e w1 ⟨rfl, h1⟩
  have HF := Lib.hid h1
  have hx := HX.out w1 h1
  have c0 : w1.cell? ⟨w.heap.size, 0, none⟩ = some (.pointer (some ⟨F, 0, none⟩)) := fblk_cell hx rfl
  have hz := fblk_lt hx
  clear h1 hx HX H1
  go_wp2_with fail
  refine (H2.out w1 HF.out).mono ?_
  rintro e w2 ⟨rfl, h2⟩
  have HG := Lib.hid h2
  clear h2 H2
  go_wp2_with fail
  exact bodyPost_end (v := .tuple #[]) (by simp [results, Tryz.results22, go_sem]) rfl ⟨rfl, HG.out⟩

end Go.Proofs.YtbpoiajpcahdhaaGreatDoor.Wi

namespace Go.Proofs.YtbpoiajpcahdhaaGreatDoor.Wi
open Go.RowKit

theorem JW.drew {w w' : World} {g P : Nat} {cur l : Array Value} (h : JW w w' g P cur l) : JW w w'.drew g P cur l := ⟨⟨h.sg.os, h.sg.tape, h.sg.output, h.sg.size, h.sg.blk⟩, h.row⟩

set_option maxHeartbeats 2000000 in
set_option maxRecDepth 100000 in
theorem end_any (B F gJ cJ gD cD k : Nat) (wv dv : Value) (f : Fm) (m : Ms) (w : World) (h : FO w B F gJ cJ gD cD wv f) (hk : k < f.jobs.length) (hB : B ≤ w.heap.size) (hd : BK w dv m.data) :
    Calls Tryz.prog 41 #[.pointer (some ⟨gJ, k * 8, none⟩), msV m dv] w fun e w' => e = .returned (.tuple #[]) ∧ FW w w' B F gJ cJ gD cD { f with jobs := f.jobs.set k (endJ f.jobs[k] m) } := by
  obtain ⟨cur, hcu, hrow⟩ := h.rows.jobs
  obtain ⟨sv, ov, hj, hsv, hov⟩ := hrow k hk
  have HSAME : Hid (∀ W1, Below w.heap.size w W1 → FW w W1 B F gJ cJ gD cD { f with jobs := f.jobs.set k f.jobs[k] }) := fun W1 hb => by
    rw [List.set_getElem_self]
    exact (FW.of h).go hb hB
  generalize f.jobs[k] = j at *
  obtain ⟨sa, sc, rfl⟩ := hsv.slice
  obtain ⟨oa, oc, rfl⟩ := hov.slice
  obtain ⟨da, dc, rfl⟩ := hd.slice
  have HNEW : Hid (∀ W1 W2 j2, j2.src = j.src → j2.obj = m.data → Below w.heap.size w W1 → JW W1 W2 gJ (k * 8) cur (jV j2 (.slice sa j.src.length sc) (.slice da m.data.length dc)) → FW w W2 B F gJ cJ gD cD { f with jobs := f.jobs.set k j2 }) := fun W1 W2 j2 e1 e2 hb hjw => by
    exact (FO.written h hb hcu hk hB hjw (by rw [e1]; exact hsv) (by rw [e2]; exact hd)).1
  have HJC : Hid (∀ W1, Below w.heap.size w W1 → W1.heap[gJ]? = some (.cells cur 40 (0, 0)) ∧ JC W1 gJ (k * 8) j (.slice sa j.src.length sc) (.slice oa j.obj.length oc) ∧ JW W1 W1 gJ (k * 8) cur (jV j (.slice sa j.src.length sc) (.slice oa j.obj.length oc))) := fun W1 hb => by
    have hc1 := (hb.block gJ (fblk_lt hcu)).trans hcu
    exact ⟨hc1, jc_of hc1 hj, JW.start hc1 hj⟩
  have hgz := fblk_lt hcu
  have HA : Hid (∀ o, Below w.heap.size w (w.alloc o)) := fun o => oalloc w o
  have HV : Hid (∀ V, Below w.heap.size w V → V.heap[w.heap.size]? = some (.cells (msC m (.slice da m.data.length dc)) 71 (0, 0)) → ∀ nq, Below w.heap.size w (V.drewN nq) ∧ (V.drewN nq).heap[w.heap.size]? = some (.cells (msC m (.slice da m.data.length dc)) 71 (0, 0))) := fun V hb hx nq => ⟨hb.trans ((below_drewN (Below.refl V.heap.size V) nq).mono hb.size), hx⟩
  have hN := fblk_new w (msC m (.slice da m.data.length dc)) 71
  have hVb := HA.out (.cells (msC m (.slice da m.data.length dc)) 71)
  obtain ⟨V, hV⟩ : ∃ V, V = w.alloc (.cells (msC m (.slice da m.data.length dc)) 71) := ⟨_, rfl⟩
  rw [← hV] at hN hVb
  obtain ⟨hc1, ⟨d0, d1, d2, d3, d4, d5, d6, d7⟩, hjw⟩ := HJC.out _ hVb
  have HNV := Lib.hid hN
  have HVB := Lib.hid hVb
  have hz1 := fblk_lt hc1
  clear h hcu hrow hj hsv hov hd hc1 hjw HA hVb
  obtain ⟨P, hP⟩ : ∃ P, k * 8 = P := ⟨_, rfl⟩
  rw [hP] at HNEW d0 d1 d2 d3 d4 d5 d6 d7 HJC ⊢
  unfold msC at *
  obtain ⟨mk, mw, mu, mt, mx, mp, ml⟩ := m
  obtain ⟨src, wk, tu, wa, dn, ob, er, pl⟩ := j
  unfold endJ msV jV at *
  simp only at *
  have b3 : V.cell? ⟨w.heap.size, 3, none⟩ = some (.int .i64 mt) := fblk_cell hN rfl
  have hzb := fblk_lt hN
  clear hN
  by_cases hx : dn = true ∨ tu < mt ∨ tu = 0
  · rw [if_pos hx]
    have HS : Hid (∀ nq, FW w (V.drewN nq) B F gJ cJ gD cD { f with jobs := f.jobs.set k ⟨src, wk, tu, wa, dn, ob, er, pl⟩ }) := fun nq => HSAME.out _ (HV.out V HVB.out HNV.out nq).1
    have hx2 : dn = true ∨ (dn = false ∧ tu < mt) ∨ (dn = false ∧ ¬ tu < mt ∧ tu = 0) := by
      cases dn
      · rcases hx with h | h | h
        · cases h
        · exact .inr (.inl ⟨rfl, h⟩)
        · by_cases h2 : tu < mt
          · exact .inr (.inl ⟨rfl, h2⟩)
          · exact .inr (.inr ⟨rfl, h2, h⟩)
      · exact .inl rfl
    clear hx HNEW HSAME HV HVB HNV HJC
    rcases hx2 with rfl | ⟨rfl, h2⟩ | ⟨rfl, h2, rfl⟩
    all_goals
      go_enter Tryz.func41, Tryz.ntmps41
      go_wp2_with fail
      rw [← hV]
      clear hV
      go_quiet (fail)
      go_wp2_with fail
      exact bodyPost_ret (v := .tuple #[]) (by simp [results, Tryz.results41, go_sem]) rfl ⟨rfl, HS.out _⟩
  · rw [if_neg hx]
    have hdn : dn = false := by cases dn <;> simp_all
    have h2 : ¬ tu < mt := fun h => hx (.inr (.inl h))
    have h3 : (tu == 0) = false := by simp; exact fun h => hx (.inr (.inr h))
    subst hdn
    clear hx HSAME
    go_enter Tryz.func41, Tryz.ntmps41
    go_wp2_with fail
    rw [← hV]
    clear hV
    go_quiet (fail)
    obtain ⟨hXB, hXN⟩ := HV.out V HVB.out HNV.out nq
    clear d0 d1 d2 d3 d4 d5 d6 d7 b3 hzb hz1
    obtain ⟨X, hX⟩ : ∃ X, V.drewN nq = X := ⟨_, rfl⟩
    rw [hX] at hXB hXN ⊢
    obtain ⟨hc1, ⟨d0, d1, d2, d3, d4, d5, d6, d7⟩, hjw⟩ := HJC.out X hXB
    have HJW := Lib.hid hjw
    have HXB := Lib.hid hXB
    have hf : ∀ i, X.frozen? ⟨gJ, i, none⟩ = false := fun i => fblk_froz hc1
    have hz1 := fblk_lt hc1
    have b4 : X.cell? ⟨w.heap.size, 4, none⟩ = some (.int .i64 mx) := fblk_cell hXN rfl
    have b5 : X.cell? ⟨w.heap.size, 5, none⟩ = some (.int .i64 mp) := fblk_cell hXN rfl
    have b6 : X.cell? ⟨w.heap.size, 6, none⟩ = some (.slice da ml.length dc) := fblk_cell hXN rfl
    have hzb := fblk_lt hXN
    have hneb : ¬ gJ = w.heap.size := by omega
    have hneb2 : ¬ w.heap.size = gJ := by omega
    clear hX hXB hXN hc1 hjw HJC HV HVB HNV
    go_wp2_with fail
    have HJY := Lib.hid (((HJW.out.set 4 (by decide) rfl (.bool true)).set 1 (by decide) rfl (.int .i64 (-1))).set 3 (by decide) rfl (.int .i64 0))
    obtain ⟨Y, hY⟩ : ∃ Y, Y = ((X.setCell ⟨gJ, P + 4, none⟩ (.bool true)).setCell ⟨gJ, P + 1, none⟩ (.int .i64 (-1))).setCell ⟨gJ, P + 3, none⟩ (.int .i64 0) := ⟨_, rfl⟩
    rw [← hY] at HJY ⊢
    have yf : ∀ i, Y.frozen? ⟨gJ, i, none⟩ = false := fun i => by obtain ⟨cu, h1, _⟩ := HJY.out.row; exact fblk_froz h1
    have yz : gJ < Y.heap.size := by obtain ⟨cu, h1, _⟩ := HJY.out.row; exact fblk_lt h1
    have y4 : Y.cell? ⟨w.heap.size, 4, none⟩ = some (.int .i64 mx) := by subst hY; simp [go_sem, b4]
    have y5 : Y.cell? ⟨w.heap.size, 5, none⟩ = some (.int .i64 mp) := by subst hY; simp [go_sem, b5]
    have y6 : Y.cell? ⟨w.heap.size, 6, none⟩ = some (.slice da ml.length dc) := by subst hY; simp [go_sem, b6]
    have e5 : Y.cell? ⟨gJ, P + 5, none⟩ = some (.slice oa ob.length oc) := by subst hY; simp [go_sem, d5]
    have e6 : Y.cell? ⟨gJ, P + 6, none⟩ = some (.int .i64 er) := by subst hY; simp [go_sem, d6]
    have e7 : Y.cell? ⟨gJ, P + 7, none⟩ = some (.int .i64 pl) := by subst hY; simp [go_sem, d7]
    clear hY HJW d0 d1 d2 d3 d4 d5 d6 d7 b4 b5 b6 hf hz1 hzb
    go_region
    all_goals exact bodyPost_end (v := .tuple #[]) (by simp [results, Tryz.results41, go_sem]) rfl ⟨rfl, HNEW.out X _ ⟨src, -1, tu, 0, true, ml, mx, mp⟩ rfl rfl HXB.out (((HJY.out.set 5 (by decide) rfl (.slice da ml.length dc)).set 6 (by decide) rfl (.int .i64 mx)).set 7 (by decide) rfl (.int .i64 mp)).drew⟩

end Go.Proofs.YtbpoiajpcahdhaaGreatDoor.Wi

namespace Go.Proofs.YtbpoiajpcahdhaaGreatDoor.Wi
open Go.RowKit

/-- What a worker answers to a lease, in any later world. -/
def AnsAt (w : World) (m r : Ms) : Prop := ∀ W dv, Below w.heap.size w W → RB W W.heap.size dv m.data → Calls Tryz.prog 51 #[msV m dv] W fun e w' => ∃ v, e = .returned (msV r v) ∧ RB w' w'.heap.size v r.data ∧ Below W.heap.size W w'
theorem AnsAt.later {w w' : World} {m r : Ms} (h : AnsAt w m r) (hb : Below w.heap.size w w') : AnsAt w' m r := fun W dv hb2 => h W dv (hb.trans (hb2.mono hb.size))
theorem rb_below {w w' : World} {v : Value} {l : List UInt8} (h : RB w w.heap.size v l) (hb : Below w.heap.size w w') : RB w' w'.heap.size v l := by
  obtain ⟨ad, cap, rfl, h⟩ := h
  refine ⟨ad, cap, rfl, ?_⟩
  rcases h with h | ⟨a, rfl, hc, h⟩
  · exact .inl h
  · refine .inr ⟨a, rfl, hc, fun h0 => ?_⟩
    obtain ⟨b, o, rfl, hbl, hcs⟩ := h h0
    exact ⟨b, o, rfl, Nat.lt_of_lt_of_le hbl hb.size, fun i hi => (hb.cell (by exact hbl)).trans (hcs i hi)⟩

theorem live_in {d : List Bool} {x : Int} : live d x = true ↔ ∃ h : x.toNat < d.length, d[x.toNat] = false := by
  unfold live
  rw [List.getD_eq_getElem?_getD]
  constructor
  · intro h
    by_cases hl : x.toNat < d.length
    · rw [List.getElem?_eq_getElem hl] at h
      exact ⟨hl, by simpa using h⟩
    · rw [List.getElem?_eq_none (by omega)] at h
      simp at h
  · rintro ⟨h, e⟩
    rw [List.getElem?_eq_getElem h]
    simp [e]

set_option maxHeartbeats 2000000 in
set_option maxRecDepth 100000 in
theorem work_any (B F gJ cJ gD cD : Nat) (wv dv : Value) (f : Fm) (U : Ms → Ms) (m : Ms) (w : World) (h : FO w B F gJ cJ gD cD wv f) (hm : 0 ≤ m.worker) (hd : RB w w.heap.size dv m.data) (hB : B ≤ w.heap.size) (hl : f.way.length ≤ 12) (hW : WL w) (hU : live f.dead m.worker = true → AnsAt w m (U m) ∧ (U m).data.length ≤ 1000000000) :
    Calls Tryz.prog 40 #[.pointer (some ⟨F, 0, none⟩), msV m dv] w fun e w' => e = .returned (.tuple #[]) ∧ FW w w' B F gJ cJ gD cD (if live f.dead m.worker = true then sendF f (U m) else f) := by
  have HO := Lib.hid h
  obtain ⟨da, dc, rfl, _⟩ := id hd
  have HA : Hid (∀ o, Below w.heap.size w (w.alloc o)) := fun o => oalloc w o
  have c2 := fblk_cell (i := 2) (v := .slice (some ⟨gD, 0, none⟩) f.dead.length cD) h.box rfl
  have hF := fblk_lt h.box
  obtain ⟨du, hgd, hdr⟩ := h.rows.dead
  have hgz := fblk_lt hgd
  have HF1 : Hid (∀ W1, Below w.heap.size w W1 → FW w W1 B F gJ cJ gD cD f) := fun W1 hb => (FW.of h).go hb hB
  by_cases hlv : live f.dead m.worker = true
  · obtain ⟨hA, hUl⟩ := hU hlv
    rw [if_pos hlv]
    obtain ⟨hlt, hfalse⟩ := live_in.1 hlv
    have hAN : Hid (∀ W, Below w.heap.size w W → Calls Tryz.prog 51 #[msV m (.slice da m.data.length dc)] W fun e w' => ∃ v, e = .returned (msV (U m) v) ∧ RB w' w'.heap.size v (U m).data ∧ Below w.heap.size w w') := fun W hb => by
      refine (hA W _ hb (rb_below hd hb)).mono ?_
      rintro e w' ⟨v, rfl, h1, h2⟩
      exact ⟨v, rfl, h1, hb.trans (h2.mono hb.size)⟩
    have HSE : Hid (∀ W v, Below w.heap.size w W → RB W W.heap.size v (U m).data → Calls Tryz.prog 45 #[.pointer (some ⟨F, 0, none⟩), msV (U m) v] W fun e w' => e = .returned (.tuple #[]) ∧ FW w w' B F gJ cJ gD cD (sendF f (U m))) := fun W v hb hv => by
      refine (send_any B F gJ cJ gD cD wv v f (U m) W (h.go hb) hv hUl (Nat.le_trans hB hb.size) hl (hW.below hb (Nat.le_refl _))).mono ?_
      rintro e w' ⟨rfl, h3⟩
      exact ⟨rfl, FW.ahead (hb.mono hB) (KF.of hb) h3⟩
    have cd : w.cell? ⟨gD, m.worker.toNat, none⟩ = some (.bool false) := by
      have := hdr m.worker.toNat hlt
      rw [hfalse] at this
      exact fblk_cell hgd this
    have h1 : m.worker < (f.dead.length : Int) := by omega
    clear h hd hW hU hgd hdr hA hlv hfalse
    generalize U m = r at *
    have HBX : Hid (∀ V, Below w.heap.size w V → V.heap[w.heap.size]? = some (.cells (msC m (.slice da m.data.length dc)) 71 (0, 0)) → V.cell? ⟨w.heap.size, 0, none⟩ = some (.int .i64 m.kind) ∧ V.cell? ⟨w.heap.size, 1, none⟩ = some (.int .i64 m.worker) ∧ V.cell? ⟨w.heap.size, 2, none⟩ = some (.int .i64 m.unit) ∧ V.cell? ⟨w.heap.size, 3, none⟩ = some (.int .i64 m.turn) ∧ V.cell? ⟨w.heap.size, 4, none⟩ = some (.int .i64 m.err) ∧ V.cell? ⟨w.heap.size, 5, none⟩ = some (.int .i64 m.place) ∧ V.cell? ⟨w.heap.size, 6, none⟩ = some (.slice da m.data.length dc) ∧ w.heap.size < V.heap.size ∧ V.cell? ⟨F, 2, none⟩ = some (.slice (some ⟨gD, 0, none⟩) f.dead.length cD) ∧ V.cell? ⟨gD, m.worker.toNat, none⟩ = some (.bool false) ∧ F < V.heap.size ∧ gD < V.heap.size) := fun V hb hx => ⟨fblk_cell hx rfl, fblk_cell hx rfl, fblk_cell hx rfl, fblk_cell hx rfl, fblk_cell hx rfl, fblk_cell hx rfl, fblk_cell hx rfl, fblk_lt hx, (hb.cell (by exact hF)).trans c2, (hb.cell (by exact hgz)).trans cd, Nat.lt_of_lt_of_le hF hb.size, Nat.lt_of_lt_of_le hgz hb.size⟩
    have hN := fblk_new w (msC m (.slice da m.data.length dc)) 71
    have hVb := HA.out (.cells (msC m (.slice da m.data.length dc)) 71)
    obtain ⟨V, hV⟩ : ∃ V, V = w.alloc (.cells (msC m (.slice da m.data.length dc)) 71) := ⟨_, rfl⟩
    rw [← hV] at hN hVb
    have HNV := Lib.hid (And.intro hVb hN)
    obtain ⟨b0, b1, b2, b3, b4, b5, b6, bz, c2', cd', hF', hgz'⟩ := HBX.out V hVb hN
    clear c2 cd hF hgz hVb hN HA
    unfold msC at *
    obtain ⟨mk, mw, mu, mt, mx, mp, ml⟩ := m
    obtain ⟨rk, rw', ru, rt, rx, rp, rl⟩ := r
    unfold msV at *
    simp only at *
    obtain ⟨x, hx⟩ : ∃ x : Nat, mw = x := ⟨mw.toNat, by omega⟩
    subst hx
    try simp only [Int.toNat_natCast] at *
    go_enter Tryz.func40, Tryz.ntmps40
    go_wp2_with fail
    rw [← hV]
    clear hV
    go_quiet (fail)
    obtain ⟨X, hX⟩ : ∃ X, V.drewN nq = X := ⟨_, rfl⟩
    have HXB : Hid (Below w.heap.size w X ∧ X.heap[w.heap.size]? = some (.cells #[.int .i64 mk, .int .i64 (x : Int), .int .i64 mu, .int .i64 mt, .int .i64 mx, .int .i64 mp, .slice da ml.length dc] 71 (0, 0))) := by
      rw [← hX]
      exact ⟨HNV.out.1.trans ((below_drewN (Below.refl V.heap.size V) nq).mono HNV.out.1.size), HNV.out.2⟩
    rw [hX]
    clear b0 b1 b2 b3 b4 b5 b6 bz c2' cd' hF' hgz' hX HNV
    obtain ⟨b0, b1, b2, b3, b4, b5, b6, bz, c2', cd', hF', hgz'⟩ := HBX.out X HXB.out.1 HXB.out.2
    go_wp2_with fail
    refine (hAN.out X HXB.out.1).mono ?_
    rintro e w1 ⟨v, rfl, hv, hb1⟩
    have HS := Lib.hid (HSE.out w1 v hb1 hv)
    obtain ⟨va, vc, rfl, _⟩ := id hv
    clear hv hb1 HSE hAN HBX b0 b1 b2 b3 b4 b5 b6 bz c2' cd' hF' hgz'
    go_wp2_with fail
    refine HS.out.mono ?_
    rintro e w2 ⟨rfl, h3⟩
    have H3 := Lib.hid h3
    clear h3 HS
    go_wp2_with fail
    exact bodyPost_end (v := .tuple #[]) (by simp [results, Tryz.results40, go_sem]) rfl ⟨rfl, H3.out⟩
  · rw [if_neg hlv]
    have HBX : Hid (∀ V, Below w.heap.size w V → V.heap[w.heap.size]? = some (.cells (msC m (.slice da m.data.length dc)) 71 (0, 0)) → V.cell? ⟨w.heap.size, 1, none⟩ = some (.int .i64 m.worker) ∧ w.heap.size < V.heap.size ∧ V.cell? ⟨F, 2, none⟩ = some (.slice (some ⟨gD, 0, none⟩) f.dead.length cD) ∧ F < V.heap.size ∧ gD < V.heap.size ∧ (∀ h : m.worker.toNat < f.dead.length, V.cell? ⟨gD, m.worker.toNat, none⟩ = some (.bool true))) := fun V hb hx => ⟨fblk_cell hx rfl, fblk_lt hx, (hb.cell (by exact hF)).trans c2, Nat.lt_of_lt_of_le hF hb.size, Nat.lt_of_lt_of_le hgz hb.size, fun hlt => (hb.cell (by exact hgz)).trans (by
      have := hdr m.worker.toNat hlt
      have e : f.dead[m.worker.toNat] = true := by
        cases hh : f.dead[m.worker.toNat] with
        | true => rfl
        | false => exact absurd (live_in.2 ⟨hlt, hh⟩) hlv
      rw [e] at this
      exact fblk_cell hgd this)⟩
    have hN := fblk_new w (msC m (.slice da m.data.length dc)) 71
    have hVb := HA.out (.cells (msC m (.slice da m.data.length dc)) 71)
    obtain ⟨V, hV⟩ : ∃ V, V = w.alloc (.cells (msC m (.slice da m.data.length dc)) 71) := ⟨_, rfl⟩
    rw [← hV] at hN hVb
    obtain ⟨b1, bz, c2', hF', hgz', hcd⟩ := HBX.out V hVb hN
    have HFX : Hid (∀ nq, FW w (V.drewN nq) B F gJ cJ gD cD f) := fun nq => HF1.out _ (hVb.trans ((below_drewN (Below.refl V.heap.size V) nq).mono hVb.size))
    clear h hd hW hU hgd hdr hlv c2 hF hgz hVb hN HA HBX HF1
    unfold msC at *
    obtain ⟨mk, mw, mu, mt, mx, mp, ml⟩ := m
    unfold msV at *
    simp only at *
    obtain ⟨x, hx⟩ : ∃ x : Nat, mw = x := ⟨mw.toNat, by omega⟩
    subst hx
    try simp only [Int.toNat_natCast] at *
    by_cases hlt : x < f.dead.length
    · have cd := hcd hlt
      have h1 : (x : Int) < (f.dead.length : Int) := by omega
      clear hcd hlt
      go_enter Tryz.func40, Tryz.ntmps40
      go_wp2_with fail
      rw [← hV]
      clear hV
      go_quiet (fail)
      go_wp2_with fail
      exact bodyPost_end (v := .tuple #[]) (by simp [results, Tryz.results40, go_sem]) rfl ⟨rfl, HFX.out _⟩
    · have h1 : ¬ (x : Int) < (f.dead.length : Int) := by omega
      clear hcd
      go_enter Tryz.func40, Tryz.ntmps40
      go_wp2_with fail
      rw [← hV]
      clear hV
      go_quiet (fail)
      go_wp2_with fail
      exact bodyPost_end (v := .tuple #[]) (by simp [results, Tryz.results40, go_sem]) rfl ⟨rfl, HFX.out _⟩

theorem parse_err {b : List UInt8} {x : Int} (h : parseM b = .error x) : x ≠ 0 := by
  unfold parseM at h
  split at h
  · split at h
    · cases h
    · rename_i hw
      injection h with h
      subst h
      exact hw
  · injection h with h
    omega

set_option maxHeartbeats 2000000 in
set_option maxRecDepth 100000 in
theorem come_any (S : List UInt8 → Prop) (T : Int) (B F gJ cJ gD cD : Nat) (wv bv : Value) (f : Fm) (b : List UInt8) (U : Ms → Ms) (w : World) (h : FO w B F gJ cJ gD cD wv f) (hf : Fine S T f) (hb : BK w bv b) (hl : b.length ≤ 1048590) (hB : B ≤ w.heap.size) (hW : WL w) (hU : ∀ m, parseM b = .ok m → m.kind = 1 → live f.dead m.worker = true → AnsAt w m (U m) ∧ (U m).data.length ≤ 1000000000) :
    Calls Tryz.prog 25 #[.pointer (some ⟨F, 0, none⟩), bv] w fun e w' => e = .returned (.tuple #[]) ∧ FW w w' B F gJ cJ gD cD (comeF U f b) := by
  have HPA := Lib.hid (mparse_any b bv w hb.rb (by omega) hW)
  obtain ⟨ba, bc, rfl⟩ := hb.slice
  have HF1 : Hid (∀ W1, Below w.heap.size w W1 → FW w W1 B F gJ cJ gD cD f) := fun W1 hb => (FW.of h).go hb hB
  have c1 := fblk_cell (i := 1) (v := .slice (some ⟨gJ, 0, none⟩) f.jobs.length cJ) h.box rfl
  have hF := fblk_lt h.box
  cases hp : parseM b with
  | error x =>
    have HE : Hid (comeF U f b = f) := by unfold comeF; rw [hp]; rfl
    simp only [hp] at HPA
    unfold zeroA at HPA
    go_enter Tryz.func25, Tryz.ntmps25
    go_wp2_with fail
    refine HPA.out.mono ?_
    rintro e w1 ⟨hb1, rfl⟩
    have hx : (x != 0) = true := bne_iff_ne.2 (parse_err hp)
    have HFX : Hid (∀ nq, FW w ((w1.alloc (.cells #[.int .i64 0, .int .i64 0, .int .i64 0, .int .i64 0, .int .i64 0, .int .i64 0, .slice none 0 0] 71)).drewN nq) B F gJ cJ gD cD f) := fun nq => HF1.out _ (below_drewN (bnext hb1 (oalloc w1 _)) nq)
    clear hb1 h hf hb hW hU hp HF1 HPA c1
    go_wp2_with fail
    obtain ⟨V, hV⟩ : ∃ V, V = w1.alloc (.cells #[.int .i64 0, .int .i64 0, .int .i64 0, .int .i64 0, .int .i64 0, .int .i64 0, .slice none 0 0] 71) := ⟨_, rfl⟩
    rw [← hV] at HFX ⊢
    clear hV
    go_quiet (fail)
    go_wp2_with fail
    exact bodyPost_ret (v := .tuple #[]) (by simp [results, Tryz.results25, go_sem]) rfl ⟨rfl, by rw [HE.out]; exact HFX.out _⟩
  | ok m =>
    obtain ⟨hkk, hr, _, hdl⟩ := right_of (bytes_parseM hp).1
    unfold rangeM at hr
    obtain ⟨⟨r1, r2⟩, ⟨r3, r4⟩, r5, r6⟩ := hr
    simp only [hp] at HPA
    have HU := Lib.hid (hU m hp)
    have HO := Lib.hid h
    have HBX : Hid (∀ V W1 dv, Below w.heap.size w W1 → Below W1.heap.size W1 V → V.heap[W1.heap.size]? = some (.cells (msC m dv) 71 (0, 0)) → V.cell? ⟨W1.heap.size, 0, none⟩ = some (.int .i64 m.kind) ∧ V.cell? ⟨W1.heap.size, 1, none⟩ = some (.int .i64 m.worker) ∧ V.cell? ⟨W1.heap.size, 2, none⟩ = some (.int .i64 m.unit) ∧ V.cell? ⟨W1.heap.size, 3, none⟩ = some (.int .i64 m.turn) ∧ V.cell? ⟨W1.heap.size, 4, none⟩ = some (.int .i64 m.err) ∧ V.cell? ⟨W1.heap.size, 5, none⟩ = some (.int .i64 m.place) ∧ V.cell? ⟨W1.heap.size, 6, none⟩ = some dv ∧ W1.heap.size < V.heap.size ∧ V.cell? ⟨F, 1, none⟩ = some (.slice (some ⟨gJ, 0, none⟩) f.jobs.length cJ) ∧ F < V.heap.size) := fun V W1 dv hb hb2 hx => ⟨fblk_cell hx rfl, fblk_cell hx rfl, fblk_cell hx rfl, fblk_cell hx rfl, fblk_cell hx rfl, fblk_cell hx rfl, fblk_cell hx rfl, fblk_lt hx, ((bnext hb hb2).cell (by exact hF)).trans c1, Nat.lt_of_lt_of_le hF (bnext hb hb2).size⟩
    by_cases hu : m.unit < f.jobs.length
    · have hul : m.unit.toNat < f.jobs.length := by omega
      have hu1 : m.unit < (f.jobs.length : Int) := hu
      have hu2 : ¬ (f.jobs.length : Int) ≤ m.unit := by omega
      have hul2 : ¬ f.jobs.length ≤ m.unit.toNat := by omega
      by_cases hk1 : m.kind = 1
      · have HE : Hid (comeF U f b = if live f.dead m.worker = true then sendF f (U m) else f) := by
          unfold comeF
          rw [hp]
          simp only [List.getElem?_eq_getElem hul]
          rw [if_pos hk1]
          rfl
        have HKX : Hid (∀ W dv, Below w.heap.size w W → BK W dv m.data → Calls Tryz.prog 40 #[.pointer (some ⟨F, 0, none⟩), msV m dv] W fun e w' => e = .returned (.tuple #[]) ∧ FW w w' B F gJ cJ gD cD (comeF U f b)) := fun W dv hbw hv => by
          refine (work_any B F gJ cJ gD cD wv dv f U m W (h.go hbw) r1 hv.rb (Nat.le_trans hB hbw.size) hf.wl (hW.below hbw (Nat.le_refl _)) (fun hlv => ⟨(HU.out hk1 hlv).1.later hbw, (HU.out hk1 hlv).2⟩)).mono ?_
          rintro e w' ⟨rfl, h3⟩
          exact ⟨rfl, by rw [HE.out]; exact FW.ahead (hbw.mono hB) (KF.of hbw) h3⟩
        have hkb : (m.kind == 1) = true := by simpa using hk1
        clear h hf hb hW hU hp c1 HU hkk hk1 hul HE HF1
        unfold msC at *
        obtain ⟨mk, mw, mu, mt, mx, mp, ml⟩ := m
        unfold msV at *
        simp only at *
        obtain ⟨x, hx⟩ : ∃ x : Nat, mu = x := ⟨mu.toNat, by omega⟩
        subst hx
        try simp only [Int.toNat_natCast] at *
        go_enter Tryz.func25, Tryz.ntmps25
        go_wp2_with fail
        refine HPA.out.mono ?_
        rintro e w1 ⟨hb1, dv, rfl, ho⟩
        obtain ⟨da, dc, rfl⟩ := ho.bk.slice
        have HV1 := Lib.hid (And.intro hb1 ho.bk)
        clear hb1 ho HPA
        go_wp2_with fail
        obtain ⟨V, hV⟩ : ∃ V, V = w1.alloc (.cells #[.int .i64 mk, .int .i64 mw, .int .i64 (x : Int), .int .i64 mt, .int .i64 mx, .int .i64 mp, .slice da ml.length dc] 71) := ⟨_, rfl⟩
        have hVb : Below w1.heap.size w1 V := by rw [hV]; exact oalloc w1 _
        have hVn : V.heap[w1.heap.size]? = some (.cells #[.int .i64 mk, .int .i64 mw, .int .i64 (x : Int), .int .i64 mt, .int .i64 mx, .int .i64 mp, .slice da ml.length dc] 71 (0, 0)) := by rw [hV]; exact fblk_new w1 _ _
        obtain ⟨b0, b1, b2, b3, b4, b5, b6, bz, c1', hF'⟩ := HBX.out V w1 _ HV1.out.1 hVb hVn
        have HVV := Lib.hid (And.intro hVb hVn)
        rw [← hV]
        clear hV hVb hVn
        go_quiet (fail)
        obtain ⟨X, hX⟩ : ∃ X, V.drewN nq = X := ⟨_, rfl⟩
        have HXX : Hid (Below w1.heap.size w1 X ∧ X.heap[w1.heap.size]? = some (.cells #[.int .i64 mk, .int .i64 mw, .int .i64 (x : Int), .int .i64 mt, .int .i64 mx, .int .i64 mp, .slice da ml.length dc] 71 (0, 0))) := by
          rw [← hX]
          exact ⟨below_drewN HVV.out.1 nq, HVV.out.2⟩
        rw [hX]
        clear b0 b1 b2 b3 b4 b5 b6 bz c1' hF' hX HVV
        obtain ⟨b0, b1, b2, b3, b4, b5, b6, bz, c1', hF'⟩ := HBX.out X w1 _ HV1.out.1 HXX.out.1 HXX.out.2
        have HKW := Lib.hid (HKX.out X _ (bnext HV1.out.1 HXX.out.1) (HV1.out.2.below HXX.out.1))
        clear HKX HBX
        go_wp2_with fail
        refine HKW.out.mono ?_
        rintro e w2 ⟨rfl, h3⟩
        have H3 := Lib.hid h3
        clear h3 HKW b0 b1 b2 b3 b4 b5 b6
        go_wp2_with fail
        exact bodyPost_ret (v := .tuple #[]) (by simp [results, Tryz.results25, go_sem]) rfl ⟨rfl, H3.out⟩
      · have HE : Hid (comeF U f b = { f with jobs := f.jobs.set m.unit.toNat (endJ f.jobs[m.unit.toNat] m) }) := by
          unfold comeF
          rw [hp]
          simp only [List.getElem?_eq_getElem hul]
          rw [if_neg hk1]
          rfl
        have HKX : Hid (∀ W dv, Below w.heap.size w W → BK W dv m.data → Calls Tryz.prog 41 #[.pointer (some ⟨gJ, m.unit.toNat * 8, none⟩), msV m dv] W fun e w' => e = .returned (.tuple #[]) ∧ FW w w' B F gJ cJ gD cD (comeF U f b)) := fun W dv hbw hv => by
          refine (end_any B F gJ cJ gD cD m.unit.toNat wv dv f m W (h.go hbw) hul (Nat.le_trans hB hbw.size) hv).mono ?_
          rintro e w' ⟨rfl, h3⟩
          exact ⟨rfl, by rw [HE.out]; exact FW.ahead (hbw.mono hB) (KF.of hbw) h3⟩
        have hkb : (m.kind == 1) = false := by simpa using hk1
        clear h hf hb hW hU hp c1 HU hkk hk1 hul HE HF1
        unfold msC at *
        obtain ⟨mk, mw, mu, mt, mx, mp, ml⟩ := m
        unfold msV at *
        simp only at *
        obtain ⟨x, hx⟩ : ∃ x : Nat, mu = x := ⟨mu.toNat, by omega⟩
        subst hx
        try simp only [Int.toNat_natCast] at *
        go_enter Tryz.func25, Tryz.ntmps25
        go_wp2_with fail
        refine HPA.out.mono ?_
        rintro e w1 ⟨hb1, dv, rfl, ho⟩
        obtain ⟨da, dc, rfl⟩ := ho.bk.slice
        have HV1 := Lib.hid (And.intro hb1 ho.bk)
        clear hb1 ho HPA
        go_wp2_with fail
        obtain ⟨V, hV⟩ : ∃ V, V = w1.alloc (.cells #[.int .i64 mk, .int .i64 mw, .int .i64 (x : Int), .int .i64 mt, .int .i64 mx, .int .i64 mp, .slice da ml.length dc] 71) := ⟨_, rfl⟩
        have hVb : Below w1.heap.size w1 V := by rw [hV]; exact oalloc w1 _
        have hVn : V.heap[w1.heap.size]? = some (.cells #[.int .i64 mk, .int .i64 mw, .int .i64 (x : Int), .int .i64 mt, .int .i64 mx, .int .i64 mp, .slice da ml.length dc] 71 (0, 0)) := by rw [hV]; exact fblk_new w1 _ _
        obtain ⟨b0, b1, b2, b3, b4, b5, b6, bz, c1', hF'⟩ := HBX.out V w1 _ HV1.out.1 hVb hVn
        have HVV := Lib.hid (And.intro hVb hVn)
        rw [← hV]
        clear hV hVb hVn
        go_quiet (fail)
        obtain ⟨X, hX⟩ : ∃ X, V.drewN nq = X := ⟨_, rfl⟩
        have HXX : Hid (Below w1.heap.size w1 X ∧ X.heap[w1.heap.size]? = some (.cells #[.int .i64 mk, .int .i64 mw, .int .i64 (x : Int), .int .i64 mt, .int .i64 mx, .int .i64 mp, .slice da ml.length dc] 71 (0, 0))) := by
          rw [← hX]
          exact ⟨below_drewN HVV.out.1 nq, HVV.out.2⟩
        rw [hX]
        clear b0 b1 b2 b3 b4 b5 b6 bz c1' hF' hX HVV
        obtain ⟨b0, b1, b2, b3, b4, b5, b6, bz, c1', hF'⟩ := HBX.out X w1 _ HV1.out.1 HXX.out.1 HXX.out.2
        have HKW := Lib.hid (HKX.out X.drew _ (bnext HV1.out.1 HXX.out.1).drew (HV1.out.2.below HXX.out.1.drew))
        clear HKX HBX
        go_wp2_with fail
        go_region_with (refine HKW.out.mono ?_; rintro e w4 ⟨rfl, h4⟩)
        all_goals exact bodyPost_end (v := .tuple #[]) (by simp [results, Tryz.results25, go_sem]) rfl ⟨rfl, h4⟩
    · have HE : Hid (comeF U f b = f) := by
        unfold comeF
        rw [hp]
        simp only
        rw [List.getElem?_eq_none (by omega)]
        rfl
      have hu1 : (f.jobs.length : Int) ≤ m.unit := by omega
      clear h hf hb hW hU hp c1 HU
      unfold msC at *
      obtain ⟨mk, mw, mu, mt, mx, mp, ml⟩ := m
      unfold msV at *
      simp only at *
      go_enter Tryz.func25, Tryz.ntmps25
      go_wp2_with fail
      refine HPA.out.mono ?_
      rintro e w1 ⟨hb1, dv, rfl, ho⟩
      obtain ⟨da, dc, rfl⟩ := ho.bk.slice
      have HV1 := Lib.hid hb1
      clear hb1 ho HPA
      go_wp2_with fail
      obtain ⟨V, hV⟩ : ∃ V, V = w1.alloc (.cells #[.int .i64 mk, .int .i64 mw, .int .i64 mu, .int .i64 mt, .int .i64 mx, .int .i64 mp, .slice da ml.length dc] 71) := ⟨_, rfl⟩
      have hVb : Below w1.heap.size w1 V := by rw [hV]; exact oalloc w1 _
      have hVn : V.heap[w1.heap.size]? = some (.cells #[.int .i64 mk, .int .i64 mw, .int .i64 mu, .int .i64 mt, .int .i64 mx, .int .i64 mp, .slice da ml.length dc] 71 (0, 0)) := by rw [hV]; exact fblk_new w1 _ _
      obtain ⟨b0, b1, b2, b3, b4, b5, b6, bz, c1', hF'⟩ := HBX.out V w1 _ HV1.out hVb hVn
      have HFX : Hid (∀ nq, FW w (V.drewN nq) B F gJ cJ gD cD f) := fun nq => HF1.out _ (below_drewN (bnext HV1.out hVb) nq)
      rw [← hV]
      clear hV hVb hVn HBX HF1
      go_quiet (fail)
      go_wp2_with fail
      exact bodyPost_ret (v := .tuple #[]) (by simp [results, Tryz.results25, go_sem]) rfl ⟨rfl, by rw [HE.out]; exact HFX.out _⟩

end Go.Proofs.YtbpoiajpcahdhaaGreatDoor.Wi
