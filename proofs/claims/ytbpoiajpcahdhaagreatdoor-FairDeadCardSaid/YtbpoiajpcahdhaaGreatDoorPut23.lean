/- farm.do: one step. farm.Do: a step of a farm. -/
import Derived.Test.YtbpoiajpcahdhaaGreatDoorPut19
import Derived.Test.YtbpoiajpcahdhaaGreatDoorPut18
import Derived.Test.YtbpoiajpcahdhaaGreatDoorPut22
namespace Go.Proofs.YtbpoiajpcahdhaaGreatDoor.Wi
open Go.RowKit

set_option maxHeartbeats 2000000 in
set_option maxRecDepth 100000 in
/-- farm.one: what is to be done, if there is such a number. -/
theorem one_yes (n many : Int) (g : FuncId) (caps : Array Value) (hent : ∀ args w, (callFunc g args).run Tryz.prog w = .ok (.enter g args) w) (R : World → Prop) (w : World) (h0 : 0 ≤ n) (h1 : n < many) (hc : Calls Tryz.prog g caps w fun e w' => e = .returned (.tuple #[]) ∧ R w') :
    Calls Tryz.prog 23 #[.int .i64 n, .int .i64 many, .func (.func g) #[] caps] w fun e w' => e = .returned (.int .i64 0) ∧ R w' := by
  have HC := Lib.hid hc
  have h2 : ¬ n < 0 := by omega
  have h3 : ¬ many ≤ n := by omega
  clear hc
  go_enter Tryz.func23, Tryz.ntmps23
  go_wp2_with fail
  refine HC.out.mono ?_
  rintro e w1 ⟨rfl, h⟩
  have H := Lib.hid h
  clear h
  go_wp2_with fail
  go_ret
  exact ⟨rfl, H.out⟩

/-- Take number i first: what it yields lies in slot d. -/
theorem ktake_at {P : Program} {md : Region.Mode} {ops : Array Oper} {Q : Exit → Act → World → Prop} {S : World → Prop} (i d : Nat) {oi : Oper} {v : Value} {fuel : Nat} {listed : Array Bool} {T : Array Value} {D : List Deferred} {w : World} (hi : ops[i]? = some oi) (hd : oi.dst = some d)
    (hs : Region.noSelect ops = true) (hf : Region.free md ops listed i = true) (hr : (Region.ready md ops listed).contains i = true)
    (hQ : ∀ c a w, Q (.panic c) (a.put oi.dst v) w → Q (.panic c) a w) (hw : Region.wanted oi (yielded ops T) = true) (hy : ∀ w, S w → (execOp (Act.eval ⟨T, D⟩) oi).run P w = .ok (.value v) w) (hS : S w)
    (h : wpAnyH P md ops Q S fuel (listed.setIfInBounds i true) ⟨T.setIfInBounds d v, D⟩ w) : wpAnyH P md ops Q S (fuel + 1) listed ⟨T, D⟩ w := by
  refine wpAnyH_take hi hs hf hr hQ (Or.inl ⟨hw, hy⟩) hS ?_
  rw [hd]
  exact h
theorem Fine.drop {S : List UInt8 → Prop} {T : Int} {f : Fm} (h : Fine S T f) (n : Nat) : Fine S T (dropF f n) :=
  ⟨h.j0, h.j1, h.d0, h.d1, by have := h.wl; have h2 := List.length_eraseIdx_le f.way n; show (f.way.eraseIdx n).length ≤ 12; omega, h.job, fun b hb => h.way b (List.mem_of_mem_eraseIdx hb)⟩
theorem not_mine_st : ¬ Mine 33 := by unfold Mine; decide

/-- The two boxes of 'do'. -/
structure DB (w : World) (F gb gs : Nat) (kind n : Int) : Prop where
  f : w.heap[gb]? = some (.cells #[.pointer (some ⟨F, 0, none⟩)] 51 (0, 0))
  s : w.heap[gs]? = some (.cells #[.int .i64 kind, .int .i64 n] 33 (0, 0))
theorem DB.keep {w w' : World} {F gb gs : Nat} {kind n : Int} (h : DB w F gb gs kind n) (k : KF w w') : DB w' F gb gs kind n := ⟨k.blk _ _ _ _ h.f not_mine_pf, k.blk _ _ _ _ h.s not_mine_st⟩

set_option maxHeartbeats 2000000 in
set_option maxRecDepth 100000 in
theorem do1_any (S : List UInt8 → Prop) (T : Int) (B F gJ cJ gD cD gb gs n : Nat) (kind : Int) (wv : Value) (f : Fm) (U : Ms → Ms) (w : World) (h : FO w B F gJ cJ gD cD wv f) (hd : DB w F gb gs kind n) (hf : Fine S T f) (hn : n < f.way.length) (hB : B ≤ w.heap.size) (hW : WL w) (hg : 0 < B) (hU : ∀ m, parseM f.way[n] = .ok m → m.kind = 1 → live f.dead m.worker = true → (∀ W, Below B w W → AnsAt W m (U m)) ∧ (U m).data.length ≤ 1000000000) :
    Calls Tryz.prog 24 #[.pointer (some ⟨gb, 0, none⟩), .pointer (some ⟨gs, 0, none⟩)] w fun e w' => e = .returned (.tuple #[]) ∧ FW w w' B F gJ cJ gD cD (comeF U (dropF f n) f.way[n]) := by
  have HT : Hid (∀ W, Below w.heap.size w W → Calls Tryz.prog 26 #[.pointer (some ⟨F, 0, none⟩), .int .i64 (n : Int)] W fun e w' => ∃ v, e = .returned v ∧ BK w' v f.way[n] ∧ FW w w' B F gJ cJ gD cD (dropF f n)) := fun W hb => by
    refine (take_any B F gJ cJ gD cD n wv f W (h.go hb) hn hf.wl (Nat.le_trans hB hb.size)).mono ?_
    rintro e w' ⟨v, rfl, h1, h2⟩
    exact ⟨v, rfl, h1, FW.ahead (hb.mono hB) (KF.of hb) h2⟩
  have HC : Hid (∀ w1 v, BK w1 v f.way[n] → FW w w1 B F gJ cJ gD cD (dropF f n) → Calls Tryz.prog 25 #[.pointer (some ⟨F, 0, none⟩), v] w1 fun e w' => e = .returned (.tuple #[]) ∧ FW w w' B F gJ cJ gD cD (comeF U (dropF f n) f.way[n])) := fun w1 v hv hfw => by
    obtain ⟨wv1, hO⟩ := hfw.own
    refine (come_any S T B F gJ cJ gD cD wv1 v (dropF f n) f.way[n] U w1 hO (hf.drop n) hv (hf.way _ (List.getElem_mem _)).1 (Nat.le_trans hB hfw.bel.size) (hW.stay hfw.bel hg) (fun m h1 h2 h3 => ⟨(hU m h1 h2 h3).1 _ hfw.bel, (hU m h1 h2 h3).2⟩)).mono ?_
    rintro e w' ⟨rfl, h3⟩
    exact ⟨rfl, FW.ahead hfw.bel hfw.kf h3⟩
  have cf := fblk_cell (i := 0) (v := .pointer (some ⟨F, 0, none⟩)) hd.f rfl
  have cs := fblk_cell (i := 1) (v := .int .i64 (n : Int)) hd.s rfl
  have z1 := fblk_lt hd.f
  have z2 := fblk_lt hd.s
  have HDB := Lib.hid hd
  clear h hd hf hW hU
  go_enter Tryz.func24, Tryz.ntmps24
  go_wp2_with fail
  refine wp_region_noPanic ?_
  refine wp_region_held_drew (S := fun W => W.cell? ⟨gb, 0, none⟩ = some (.pointer (some ⟨F, 0, none⟩)) ∧ W.cell? ⟨gs, 1, none⟩ = some (.int .i64 (n : Int))) (by kernel_rfl) ⟨cf, cs⟩ (fun hHeld => ?_)
  clear cf cs
  refine ktake_at 0 2 (v := ?_) rfl rfl (by kernel_rfl) (by kernel_rfl) (by kernel_rfl) (fun _ _ _ h => h) rfl ?_ hHeld ?_
  rotate_left
  · intro w0 hSw
    have x1 := hSw.1
    go_simp
    try with_reducible rfl
  simp only [List.setIfInBounds_toArray, List.set_cons_zero, List.set_cons_succ]
  refine ktake_at 1 3 (v := ?_) rfl rfl (by kernel_rfl) (by kernel_rfl) (by kernel_rfl) (fun _ _ _ h => h) rfl ?_ hHeld ?_
  rotate_left
  · intro w0 hSw
    have x1 := hSw.1
    go_simp
    try with_reducible rfl
  simp only [List.setIfInBounds_toArray, List.set_cons_zero, List.set_cons_succ]
  refine ktake_at 2 4 (v := ?_) rfl rfl (by kernel_rfl) (by kernel_rfl) (by kernel_rfl) (fun _ _ _ h => h) rfl ?_ hHeld ?_
  rotate_left
  · intro w0 hSw
    go_simp
    try with_reducible rfl
  simp only [List.setIfInBounds_toArray, List.set_cons_zero, List.set_cons_succ]
  refine ktake_at 3 5 (v := ?_) rfl rfl (by kernel_rfl) (by kernel_rfl) (by kernel_rfl) (fun _ _ _ h => h) rfl ?_ hHeld ?_
  rotate_left
  · intro w0 hSw
    have x1 := hSw.2
    go_simp
    try with_reducible rfl
  simp only [List.setIfInBounds_toArray, List.set_cons_zero, List.set_cons_succ]
  refine wpAnyH_ready (rs := [4]) (by kernel_rfl) (by simp) ?_
  refine AllReadyH.cons rfl (fun K hK => ?_) AllReadyH.nil
  go_simp
  refine (HT.out _ (Below.refl _ _).drew).mono ?_
  rintro e w1 ⟨v, rfl, hv, hfw⟩
  have HC1 := Lib.hid (HC.out w1 v hv hfw)
  have hdb := HDB.out.keep hfw.kf
  go_simp
  refine hK.out _ _ ⟨fblk_cell hdb.f rfl, fblk_cell hdb.s rfl⟩ (fun hHeld => ?_)
  clear hK K HT HC hv
  refine wpAnyH_ready (rs := [5]) (by kernel_rfl) (by simp) ?_
  refine AllReadyH.cons rfl (fun K hK => ?_) AllReadyH.nil
  go_simp
  refine HC1.out.mono ?_
  rintro e w2 ⟨rfl, h2⟩
  have hdb2 := HDB.out.keep h2.kf
  go_simp
  refine hK.out _ _ ⟨fblk_cell hdb2.f rfl, fblk_cell hdb2.s rfl⟩ (fun hHeld => ?_)
  clear hK K HC1
  refine wpAnyH_done (by kernel_rfl) ?_ _
  refine NoPanic.normal ?_
  exact bodyPost_end (v := .tuple #[]) (by simp [results, Tryz.results24, go_sem]) rfl ⟨rfl, h2⟩

set_option maxHeartbeats 2000000 in
set_option maxRecDepth 100000 in
theorem do2_any (B F gJ cJ gD cD gb gs n : Nat) (kind : Int) (wv : Value) (f : Fm) (w : World) (h : FO w B F gJ cJ gD cD wv f) (hd : DB w F gb gs kind n) (hl : f.way.length ≤ 12) (hn : n < f.way.length) (hB : B ≤ w.heap.size) :
    Calls Tryz.prog 27 #[.pointer (some ⟨gb, 0, none⟩), .pointer (some ⟨gs, 0, none⟩)] w fun e w' => e = .returned (.tuple #[]) ∧ FW w w' B F gJ cJ gD cD (dropF f n) := by
  have HT := Lib.hid (take_any B F gJ cJ gD cD n wv f w h hn hl hB)
  have cf := fblk_cell (i := 0) (v := .pointer (some ⟨F, 0, none⟩)) hd.f rfl
  have cs := fblk_cell (i := 1) (v := .int .i64 (n : Int)) hd.s rfl
  have z1 := fblk_lt hd.f
  have z2 := fblk_lt hd.s
  clear h hd
  go_enter Tryz.func27, Tryz.ntmps27
  go_wp2_with fail
  refine HT.out.mono ?_
  rintro e w1 ⟨v, rfl, hv, hfw⟩
  have HFW := Lib.hid hfw
  clear hfw hv HT
  go_wp2_with fail
  exact bodyPost_end (v := .tuple #[]) (by simp [results, Tryz.results27, go_sem]) rfl ⟨rfl, HFW.out⟩

theorem FO.setDead {w : World} {B F gJ cJ gD cD n : Nat} {wv : Value} {f : Fm} {cur : Array Value} (h : FO w B F gJ cJ gD cD wv f) (hc : w.heap[gD]? = some (.cells cur 4 (0, 0))) (hn : n < f.dead.length) (b : Bool) : FO (w.setCell ⟨gD, n, none⟩ (.bool b)) B F gJ cJ gD cD wv { f with dead := f.dead.set n b } := by
  have kf : KF w (w.setCell ⟨gD, n, none⟩ (.bool b)) := KF.set hc mine2 _
  have oth : ∀ {q : Nat} {c' : Array Value} {t : TypeId} {z : Nat × Nat}, w.heap[q]? = some (.cells c' t z) → t ≠ 4 → (w.setCell ⟨gD, n, none⟩ (.bool b)).heap[q]? = some (.cells c' t z) := fun {q c' t z} hq ht => by
    rw [Below.heap_setCell _ _ _ _ ?_]
    · exact hq
    · intro e0
      have e0 : q = gD := e0
      subst e0
      rw [hc] at hq
      injection hq with hq
      injection hq with _ h2 _
      exact ht h2.symm
  obtain ⟨cu, h1, h2⟩ := h.rows.jobs
  obtain ⟨du, h3, h4⟩ := h.rows.dead
  obtain ⟨xs, h5, h6⟩ := h.rows.way
  obtain rfl : du = cur := by rw [hc] at h3; injection h3 with h3; injection h3 with h3 _ _; exact h3.symm
  refine ⟨⟨⟨cu, oth h1 (by decide), h2.keep kf⟩, ⟨_, fblk_set hc, fun k hk => ?_⟩, ⟨xs, ⟨h5.1, ?_⟩, h6.keep kf⟩, h.rows.lJ, h.rows.lD, h.rows.cJ, by simpa using h.rows.cD⟩, ?_, h.lF⟩
  · have hk2 : k < f.dead.length := by simpa using hk
    have hs := (Array.getElem?_eq_some_iff.1 (h4 n hn)).1
    by_cases e : n = k
    · subst e
      rw [Array.getElem?_setIfInBounds_self_of_lt hs]
      simp
    · rw [Array.getElem?_setIfInBounds_ne e, h4 k hk2]
      simp [e]
  · rcases h5.2 with e | ⟨g, cap, cc, e1, e2, e3, e4⟩
    · exact .inl e
    · exact .inr ⟨g, cap, cc, e1, e2, oth e3 (by decide), e4⟩
  · have := oth h.box (by decide)
    unfold fV at *
    simpa using this

set_option maxHeartbeats 2000000 in
set_option maxRecDepth 100000 in
theorem do4_any (B F gJ cJ gD cD gb gs n : Nat) (kind : Int) (wv : Value) (f : Fm) (w : World) (h : FO w B F gJ cJ gD cD wv f) (hd : DB w F gb gs kind n) (hn : n < f.dead.length) (hB : B ≤ w.heap.size) :
    Calls Tryz.prog 30 #[.pointer (some ⟨gb, 0, none⟩), .pointer (some ⟨gs, 0, none⟩)] w fun e w' => e = .returned (.tuple #[]) ∧ FW w w' B F gJ cJ gD cD (dieF f n) := by
  have cf := fblk_cell (i := 0) (v := .pointer (some ⟨F, 0, none⟩)) hd.f rfl
  have cs := fblk_cell (i := 1) (v := .int .i64 (n : Int)) hd.s rfl
  have z1 := fblk_lt hd.f
  have z2 := fblk_lt hd.s
  have c2 := fblk_cell (i := 2) (v := .slice (some ⟨gD, 0, none⟩) f.dead.length cD) h.box rfl
  have zF := fblk_lt h.box
  obtain ⟨cur, hc, hr⟩ := h.rows.dead
  have cn := fblk_cell hc (hr n hn)
  have fn : w.frozen? ⟨gD, n, none⟩ = false := fblk_froz hc
  have zD := fblk_lt hc
  have hn1 : (n : Int) < f.dead.length := by omega
  have HFD : Hid (FW w (w.setCell ⟨gD, n, none⟩ (.bool (!f.dead[n]))) B F gJ cJ gD cD (dieF f n)) := by
    have e : dieF f n = { f with dead := f.dead.set n (!f.dead[n]) } := by
      unfold dieF
      rw [List.getD_eq_getElem?_getD, List.getElem?_eq_getElem hn]
      rfl
    rw [e]
    exact ⟨⟨wv, h.setDead hc hn _⟩, (Below.refl B w).setCell (p := ⟨gD, n, none⟩) h.rows.lD _, KF.set hc mine2 _⟩
  have HFX : Hid (∀ W, FW w W B F gJ cJ gD cD (dieF f n) → FW w W.drew B F gJ cJ gD cD (dieF f n)) := fun W hW => hW.go (Below.refl _ _).drew (Nat.le_trans hB hW.bel.size)
  clear h hd hc hr
  generalize f.dead[n] = b at *
  go_enter Tryz.func30, Tryz.ntmps30
  go_wp2_with fail
  go_region
  all_goals exact bodyPost_end (v := .tuple #[]) (by simp [results, Tryz.results30, go_sem]) rfl ⟨rfl, HFX.out _ HFD.out⟩

theorem ent_do1 : ∀ args w, (callFunc 24 args).run Tryz.prog w = .ok (.enter 24 args) w := enters_of Tryz.func24 (by kernel_rfl) rfl
theorem ent_do2 : ∀ args w, (callFunc 27 args).run Tryz.prog w = .ok (.enter 27 args) w := enters_of Tryz.func27 (by kernel_rfl) rfl
theorem ent_do4 : ∀ args w, (callFunc 30 args).run Tryz.prog w = .ok (.enter 30 args) w := enters_of Tryz.func30 (by kernel_rfl) rfl

/-- What 'do' has laid. -/
theorem db_of {w : World} {B F gJ cJ gD cD : Nat} {wv : Value} {f : Fm} (h : FO w B F gJ cJ gD cD wv f) (hB : B ≤ w.heap.size) (k n : Int) : DB ((w.alloc (.cells #[.pointer (some ⟨F, 0, none⟩)] 51)).alloc (.cells #[.int .i64 k, .int .i64 n] 33)) F w.heap.size (w.heap.size + 1) k n ∧ FW w ((w.alloc (.cells #[.pointer (some ⟨F, 0, none⟩)] 51)).alloc (.cells #[.int .i64 k, .int .i64 n] 33)) B F gJ cJ gD cD f := by
  have hb := bnext (oalloc w (.cells #[.pointer (some ⟨F, 0, none⟩)] 51)) (oalloc _ (.cells #[.int .i64 k, .int .i64 n] 33))
  refine ⟨⟨?_, ?_⟩, (FW.of h).go hb hB⟩
  · rw [Below.heap_alloc _ _ _ (by simp)]
    exact fblk_new w _ _
  · have e9 : (w.alloc (.cells #[.pointer (some ⟨F, 0, none⟩)] 51)).heap.size = w.heap.size + 1 := by simp
    rw [← e9]
    exact fblk_new _ _ _

set_option maxHeartbeats 2000000 in
set_option maxRecDepth 100000 in
theorem do_tick (S : List UInt8 → Prop) (T n : Int) (B F gJ cJ gD cD : Nat) (wv : Value) (f : Fm) (w : World) (h : FO w B F gJ cJ gD cD wv f) (hf : Fine S T f) (hT : T ≤ 999999999) (hW : WL w) (hg : 0 < B) (hB : B ≤ w.heap.size) :
    Calls Tryz.prog 14 #[.pointer (some ⟨F, 0, none⟩), .agg #[.int .i64 1, .int .i64 n]] w fun e w' => e = .returned (.int .i64 0) ∧ FW w w' B F gJ cJ gD cD (tickF f) := by
  obtain ⟨hdb, hfw⟩ := db_of h hB 1 n
  obtain ⟨wv1, hO⟩ := hfw.own
  have HT := Lib.hid (tick_any S T B F gJ cJ gD cD wv1 f _ hO hf hT (hW.stay hfw.bel hg) hg (Nat.le_trans hB hfw.bel.size))
  have HF := Lib.hid hfw
  clear h hf hW hdb hfw hO
  go_enter Tryz.func14, Tryz.ntmps14
  go_wp2_with fail
  refine HT.out.mono ?_
  rintro e w1 ⟨rfl, h1⟩
  have H1 := Lib.hid (FW.ahead HF.out.bel HF.out.kf h1)
  clear h1 HT
  go_wp2_with fail
  go_ret
  exact ⟨rfl, H1.out⟩

/-- A step of a number that is there: what 'do' comes to, by its closure's contract. -/
theorem do_num (kind : Int) (n : Nat) (B F gJ cJ gD cD : Nat) (wv : Value) (f g : Fm) (w : World) (h : FO w B F gJ cJ gD cD wv f) (hB : B ≤ w.heap.size) (clo : FuncId) (hent : ∀ args w, (callFunc clo args).run Tryz.prog w = .ok (.enter clo args) w) (many : Nat) (hn : n < many)
    (hc : ∀ W wv', FO W B F gJ cJ gD cD wv' f → Below B w W → DB W F w.heap.size (w.heap.size + 1) kind n → B ≤ W.heap.size → Calls Tryz.prog clo #[.pointer (some ⟨w.heap.size, 0, none⟩), .pointer (some ⟨w.heap.size + 1, 0, none⟩)] W fun e w' => e = .returned (.tuple #[]) ∧ FW W w' B F gJ cJ gD cD g) :
    ∀ W, Below ((w.alloc (.cells #[.pointer (some ⟨F, 0, none⟩)] 51)).alloc (.cells #[.int .i64 kind, .int .i64 n] 33)).heap.size ((w.alloc (.cells #[.pointer (some ⟨F, 0, none⟩)] 51)).alloc (.cells #[.int .i64 kind, .int .i64 n] 33)) W → Calls Tryz.prog 23 #[.int .i64 (n : Int), .int .i64 (many : Int), .func (.func clo) #[] #[.pointer (some ⟨w.heap.size, 0, none⟩), .pointer (some ⟨w.heap.size + 1, 0, none⟩)]] W fun e w' => e = .returned (.int .i64 0) ∧ FW w w' B F gJ cJ gD cD g ∧ DB w' F w.heap.size (w.heap.size + 1) kind n := fun W hW => by
  obtain ⟨hdb, hfw⟩ := db_of h hB kind n
  have hfw2 := hfw.go hW (Nat.le_trans hB hfw.bel.size)
  obtain ⟨wv', hO⟩ := hfw2.own
  refine one_yes (n : Int) (many : Int) clo _ hent (fun w' => FW w w' B F gJ cJ gD cD g ∧ DB w' F w.heap.size (w.heap.size + 1) kind n) W (by omega) (by omega) ?_
  refine (hc W wv' hO hfw2.bel (hdb.keep (KF.of hW)) (Nat.le_trans hB hfw2.bel.size)).mono ?_
  rintro e w' ⟨rfl, h3⟩
  exact ⟨rfl, FW.ahead hfw2.bel hfw2.kf h3, (hdb.keep (KF.of hW)).keep h3.kf⟩

end Go.Proofs.YtbpoiajpcahdhaaGreatDoor.Wi

namespace Go.Proofs.YtbpoiajpcahdhaaGreatDoor.Wi
open Go.RowKit

theorem fine_fit {S : List UInt8 → Prop} {T : Int} {f : Fm} (h : Fine S T f) : ∀ (k : Nat) (hk : k < f.jobs.length), f.jobs[k].src.length ≤ 100000000000 ∧ f.jobs[k].obj.length ≤ 100000000000 := fun k hk => by
  have := (h.job _ (List.getElem_mem hk)).1
  have h1 := this.sl
  have h2 := this.ol
  omega
theorem fine_fitw {S : List UInt8 → Prop} {T : Int} {f : Fm} (h : Fine S T f) : ∀ b ∈ f.way, b.length ≤ 100000000000 := fun b hb => by
  have := (h.way b hb).1
  omega
/-- A farm as a value. -/
def FV (w : World) (v : Value) (f : Fm) : Prop := ∃ gJ cJ gD cD wv, v = .agg (fV f gJ cJ gD cD wv) ∧ FR w 0 gJ cJ gD cD wv f
theorem FV.go {w w' : World} {v : Value} {f : Fm} (h : FV w v f) (hb : Below w.heap.size w w') : FV w' v f := by
  obtain ⟨a, b, c, d, e, rfl, h⟩ := h
  exact ⟨a, b, c, d, e, rfl, h.go hb (Nat.le_refl _)⟩
/-- What Do answers, by what 'do' does with the copy. -/
theorem do_gen (S : List UInt8 → Prop) (T : Int) (v : Value) (kind n er : Int) (f g : Fm) (w : World) (hv : FV w v f) (hf : Fine S T f)
    (hdo : ∀ W B F gJ cJ gD cD wv, FO W B F gJ cJ gD cD wv f → w.heap.size ≤ B → B ≤ W.heap.size → Below w.heap.size w W → Calls Tryz.prog 14 #[.pointer (some ⟨F, 0, none⟩), .agg #[.int .i64 kind, .int .i64 n]] W fun e w' => e = .returned (.int .i64 er) ∧ FW W w' B F gJ cJ gD cD g) :
    Calls Tryz.prog 6 #[v, .agg #[.int .i64 kind, .int .i64 n]] w fun e w' => ∃ v', e = .returned (.tuple #[v', .int .i64 er]) ∧ FV w' v' g ∧ Below w.heap.size w w' := by
  obtain ⟨gJ, cJ, gD, cD, wv, rfl, h⟩ := hv
  have HA : Hid (∀ o, Below w.heap.size w (w.alloc o)) := fun o => oalloc w o
  have HOW : Hid (∀ W, Below w.heap.size w W → Calls Tryz.prog 13 #[.agg (fV f gJ cJ gD cD wv)] W fun e w' => ∃ gJ' cJ' gD' cD' wv', e = .returned (.agg (fV f gJ' cJ' gD' cD' wv')) ∧ FR w' W.heap.size gJ' cJ' gD' cD' wv' f ∧ Below W.heap.size W w') := fun W hb => own_any gJ cJ gD cD wv f W (h.go hb (Nat.zero_le _)) hf.j1 hf.d1 hf.wl (fine_fit hf) (fine_fitw hf)
  have HDO := Lib.hid hdo
  obtain ⟨wa, wc, rfl⟩ := h.way_shape
  clear h hf hdo
  have hsz : (((w.alloc (.cells (fV f gJ cJ gD cD (.slice wa f.way.length wc)) 27)).alloc (.cells #[.int .i64 kind, .int .i64 n] 33))).heap.size = w.heap.size + 2 := by simp
  have hsz1 : (w.alloc (.cells (fV f gJ cJ gD cD (.slice wa f.way.length wc)) 27)).heap.size = w.heap.size + 1 := by simp
  have HW3 : Hid (Below w.heap.size w (((w.alloc (.cells (fV f gJ cJ gD cD (.slice wa f.way.length wc)) 27)).alloc (.cells #[.int .i64 kind, .int .i64 n] 33)).alloc (.cells #[.int .i64 0, .slice none 0 0, .slice none 0 0, .slice none 0 0] 27)) ∧
      (((w.alloc (.cells (fV f gJ cJ gD cD (.slice wa f.way.length wc)) 27)).alloc (.cells #[.int .i64 kind, .int .i64 n] 33)).alloc (.cells #[.int .i64 0, .slice none 0 0, .slice none 0 0, .slice none 0 0] 27)).heap[w.heap.size + 1]? = some (.cells #[.int .i64 kind, .int .i64 n] 33 (0, 0)) ∧
      (((w.alloc (.cells (fV f gJ cJ gD cD (.slice wa f.way.length wc)) 27)).alloc (.cells #[.int .i64 kind, .int .i64 n] 33)).alloc (.cells #[.int .i64 0, .slice none 0 0, .slice none 0 0, .slice none 0 0] 27)).heap[w.heap.size + 2]? = some (.cells #[.int .i64 0, .slice none 0 0, .slice none 0 0, .slice none 0 0] 27 (0, 0))) := by
    refine ⟨bnext (bnext (oalloc w _) (oalloc _ _)) (oalloc _ _), ?_, ?_⟩
    · rw [Below.heap_alloc _ _ _ (by rw [hsz]; omega), ← hsz1]
      exact fblk_new _ _ _
    · rw [← hsz]
      exact fblk_new _ _ _
  unfold fV at *
  clear hsz hsz1
  go_enter Tryz.func6, Tryz.ntmps6
  go_wp2_with fail
  obtain ⟨W3, hW3⟩ : ∃ W3, W3 = (((w.alloc (.cells #[.int .i64 f.base, .slice (some ⟨gJ, 0, none⟩) f.jobs.length cJ, .slice (some ⟨gD, 0, none⟩) f.dead.length cD, .slice wa f.way.length wc] 27)).alloc (.cells #[.int .i64 kind, .int .i64 n] 33)).alloc (.cells #[.int .i64 0, .slice none 0 0, .slice none 0 0, .slice none 0 0] 27)) := ⟨_, rfl⟩
  rw [← hW3] at HW3 ⊢
  clear hW3
  refine (HOW.out _ HW3.out.1).mono ?_
  rintro e w1 ⟨gJ', cJ', gD', cD', wv', rfl, hr, hb1⟩
  obtain ⟨wa', wc', rfl⟩ := hr.way_shape
  have hs1 := (hb1.block _ (fblk_lt HW3.out.2.1)).trans HW3.out.2.1
  have hr1 := (hb1.block _ (fblk_lt HW3.out.2.2)).trans HW3.out.2.2
  have s0 := fblk_cell (i := 0) (v := .int .i64 kind) hs1 rfl
  have s1 := fblk_cell (i := 1) (v := .int .i64 n) hs1 rfl
  have sz := fblk_lt hs1
  have HDO2 : Hid (Calls Tryz.prog 14 #[.pointer (some ⟨w1.heap.size, 0, none⟩), .agg #[.int .i64 kind, .int .i64 n]] (w1.alloc (.cells #[.int .i64 f.base, .slice (some ⟨gJ', 0, none⟩) f.jobs.length cJ', .slice (some ⟨gD', 0, none⟩) f.dead.length cD', .slice wa' f.way.length wc'] 27)) fun e w' => e = .returned (.int .i64 er) ∧ ∃ wa2 wc2, w'.heap[w1.heap.size]? = some (.cells (fV g gJ' cJ' gD' cD' (.slice wa2 g.way.length wc2)) 27 (0, 0)) ∧ w'.heap[w.heap.size + 2]? = some (.cells #[.int .i64 0, .slice none 0 0, .slice none 0 0, .slice none 0 0] 27 (0, 0)) ∧ FR w' 0 gJ' cJ' gD' cD' (.slice wa2 g.way.length wc2) g ∧ Below w.heap.size w w') := by
    have hA := oalloc w1 (.cells #[.int .i64 f.base, .slice (some ⟨gJ', 0, none⟩) f.jobs.length cJ', .slice (some ⟨gD', 0, none⟩) f.dead.length cD', .slice wa' f.way.length wc'] 27)
    refine (HDO.out _ W3.heap.size w1.heap.size gJ' cJ' gD' cD' (.slice wa' f.way.length wc') ⟨hr.go hA (Nat.le_refl _), fblk_new _ _ _, hb1.size⟩ HW3.out.1.size (Nat.le_trans hb1.size hA.size) (bnext (bnext HW3.out.1 hb1) hA)).mono ?_
    rintro e w' ⟨rfl, hfw⟩
    obtain ⟨wv2, hO⟩ := hfw.own
    obtain ⟨wa2, wc2, rfl⟩ := hO.rows.way_shape
    refine ⟨rfl, wa2, wc2, hO.box, ?_, hO.rows.go (Below.refl _ _) (Nat.zero_le _), (bnext (bnext HW3.out.1 hb1) hA).trans (hfw.bel.mono HW3.out.1.size)⟩
    rw [hfw.bel.block _ (fblk_lt HW3.out.2.2), hA.block _ (fblk_lt hr1)]
    exact hr1
  clear hr hb1 hs1 hr1 HOW HDO HW3
  go_wp2_with fail
  refine HDO2.out.mono ?_
  rintro e w2 ⟨rfl, wa2, wc2, hbx, hre, hrow, hbl⟩
  have b0 := fblk_cell (i := 0) (v := .int .i64 g.base) hbx rfl
  have b1 := fblk_cell (i := 1) (v := .slice (some ⟨gJ', 0, none⟩) g.jobs.length cJ') hbx rfl
  have b2 := fblk_cell (i := 2) (v := .slice (some ⟨gD', 0, none⟩) g.dead.length cD') hbx rfl
  have b3 := fblk_cell (i := 3) (v := .slice wa2 g.way.length wc2) hbx rfl
  have bz := fblk_lt hbx
  have r0 := fblk_cell (i := 0) (v := .int .i64 0) hre rfl
  have r1 := fblk_cell (i := 1) (v := .slice none 0 0) hre rfl
  have r2 := fblk_cell (i := 2) (v := .slice none 0 0) hre rfl
  have r3 := fblk_cell (i := 3) (v := .slice none 0 0) hre rfl
  have rf : ∀ i, w2.frozen? ⟨w.heap.size + 2, i, none⟩ = false := fun i => fblk_froz hre
  have rz := fblk_lt hre
  have HR3 : Hid (∀ v0 v1 v2 v3, FR ((((w2.setCell ⟨w.heap.size + 2, 0, none⟩ v0).setCell ⟨w.heap.size + 2, 1, none⟩ v1).setCell ⟨w.heap.size + 2, 2, none⟩ v2).setCell ⟨w.heap.size + 2, 3, none⟩ v3) 0 gJ' cJ' gD' cD' (.slice wa2 g.way.length wc2) g ∧ Below w.heap.size w ((((w2.setCell ⟨w.heap.size + 2, 0, none⟩ v0).setCell ⟨w.heap.size + 2, 1, none⟩ v1).setCell ⟨w.heap.size + 2, 2, none⟩ v2).setCell ⟨w.heap.size + 2, 3, none⟩ v3)) := fun v0 v1 v2 v3 =>
    ⟨(((hrow.setFarm hre 0 v0).setFarm (fblk_set hre) 1 v1).setFarm (fblk_set (fblk_set hre)) 2 v2).setFarm (fblk_set (fblk_set (fblk_set hre))) 3 v3, (((hbl.setCell (p := ⟨w.heap.size + 2, 0, none⟩) (by show w.heap.size ≤ w.heap.size + 2; omega) v0).setCell (p := ⟨w.heap.size + 2, 1, none⟩) (by show w.heap.size ≤ w.heap.size + 2; omega) v1).setCell (p := ⟨w.heap.size + 2, 2, none⟩) (by show w.heap.size ≤ w.heap.size + 2; omega) v2).setCell (p := ⟨w.heap.size + 2, 3, none⟩) (by show w.heap.size ≤ w.heap.size + 2; omega) v3⟩
  clear hbx hre hrow hbl HDO2 s0 s1
  go_wp2_with fail
  exact bodyPost_ret (v := .tuple #[.agg #[.int .i64 g.base, .slice (some ⟨gJ', 0, none⟩) g.jobs.length cJ', .slice (some ⟨gD', 0, none⟩) g.dead.length cD', .slice wa2 g.way.length wc2], .int .i64 er]) (by simp [results, Tryz.results6, go_sem, r0, r1, r2, r3]) rfl ⟨_, rfl, ⟨_, _, _, _, _, rfl, (HR3.out _ _ _ _).1⟩, (HR3.out _ _ _ _).2⟩

end Go.Proofs.YtbpoiajpcahdhaaGreatDoor.Wi
